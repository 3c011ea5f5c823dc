/-
  Plain mathematics for the laws of package leb: numbers as groups of seven bits, signs, and how many bits a number has. No condition of its own; it imports nothing of the program.
  Plain mathematics for the laws of package leb: what bytes begin with, read as a number in its shortest form. No condition of its own; it imports nothing of the program.
  What leb.Size and math/bits.Len64 answer, called with whatever numbers of 64 bits. Condition: the slice can be read, and holds at most 2^50 numbers.
  Rows of integers in memory that a call made itself: what is read there, what a store leaves. No condition of its own.
  What the methods of pack's 'trouble' answer, called with the place of one error's number in memory. Condition: that place can be read and written.
  A pack Reader in memory, as plain data: its bytes, its first error, its place. What Err, ready, over, Clone, NewReader and named answer. Condition: the slice can be read, and its length is one that a machine has.
  A law for 'append(s, t...)' over bytes, s in memory that the call made itself: whatever room there is, what comes out reads as the one and then the other. It speaks of every program. Condition: both together take at most 2^47 bytes.
  What bytes.Clone and pack.NewReader answer of whatever bytes: a copy in new memory, a Reader over one. Condition: the slice can be read, and its length is one that a machine has.
  Bytes in memory of one's own: nil, or a block; a law for append onto them that also says which memory may have changed. It speaks of every program. Condition: what comes out takes at most 2^47 bytes.
  Which blocks may have changed from one world to another. No condition of its own.
  What slices.Grow (of nil) and slices.Concat (of two lists of bytes) answer: the one and then the other, in memory of their own. Condition: together at most 2^47 bytes.
  Laws for variables of several cells in a block of their own. No condition of its own.
  Bytes that wait, as a chain of image's blocks; what block.size and block.with answer. Condition: together at most 2^46 bytes.
  What image's block.with answers: a chain of the bytes and those behind them. Condition: together at most 2^46 bytes.
  The Writer's block in memory, as plain data, and a law for copy into its part. Condition: the part has room.
  What the Writer's lay comes to.
  The Writer as plain data: what was laid down, the first error; and what its lay comes to. Condition: what is laid down takes at most 2^47 bytes.
  Plain mathematics for the laws of package leb: a number's bytes, how many they are, that reading undoes writing and writing undoes reading. No condition of its own; it imports nothing of the program.
  What leb.Encode answers, called with whatever numbers of 64 bits: their bytes one behind the other, in new memory that is just so large. Condition: the slice can be read, and holds at most 2^40 numbers.
  What the document's Same answers of whatever two lists of bytes: whether they are alike. Condition: both can be read.
  What a writer comes to, as plain data: bytes laid down, the first error. No condition of its own.
  What the Writer's ready, Fail, Uint and Flag answer. Condition: what is laid down takes at most 2^47 bytes.
  What the Writer's Int answers. Condition: what is laid down takes at most 2^47 bytes.
  A string's bytes as a row of cells. No condition of its own.
  A string as bytes of one's own. No condition of its own.
  What the Writer's Text answers. Condition: what is laid down takes at most 2^47 bytes.
  What leb.Decode answers, called with whatever bytes: what the plain function rd gives. Condition: the slice can be read, and its length is one that a machine has.
  What a pack Reader's Uint answers: what the plain function rUint gives. Condition: the Reader's bytes can be read, and their length is one that a machine has.
  What a pack Reader's Uint (behind an error), Left, At, End and Int answer: what the plain functions give. Condition: the Reader's bytes can be read, and their length is one that a machine has.
-/
import Derived.Test.YtcdgfghcmeadgaaDoorRows
import Derived.WalkKit
import Derived.WalkSmall
import Derived.Laws.Bits64b
import Derived.WalkSpells
import Derived.Deep.Light
import Derived.Laws.CopyOwn
import Derived.OwnWalk
import Derived.Laws.AppendOwnNone
import Derived.BigQuiet
import Derived.Deep.QuietTactic
import Derived.ArgAppend
import Derived.Below
import Derived.Maps.AppendAt
import Derived.Lib.AppendZeros
import Derived.Deep.WholeRow
import Derived.Deep.MidRow
import Derived.Deep.RegionLaw
import Derived.Deep.RegionHeld3
import Derived.Laws.BytesArg
import Derived.Laws.IdiomStrings
import Derived.Lib.EndianBits
namespace Go.Proofs.YtcdgfghcmeadgaaDoor
set_option linter.unusedVariables false

/-- A number with a sign as one without. -/
def zig (a : Int) : Int := if 0 ≤ a then 2 * a else -2 * a - 1
/-- And back. -/
def zag (u : Int) : Int := if u % 2 = 0 then u / 2 else - (u / 2) - 1

theorem zig_bd (a : Int) (h1 : -9223372036854775808 ≤ a) (h2 : a ≤ 9223372036854775807) : 0 ≤ zig a ∧ zig a < 18446744073709551616 := by
  unfold zig; split <;> omega
theorem zag_bd (u : Int) (h1 : 0 ≤ u) (h2 : u < 18446744073709551616) : -9223372036854775808 ≤ zag u ∧ zag u ≤ 9223372036854775807 := by
  unfold zag; split <;> omega
theorem zag_zig (a : Int) : zag (zig a) = a := by
  unfold zig zag; split <;> split <;> omega
theorem zig_zag (u : Int) (h : 0 ≤ u) : zig (zag u) = u := by
  unfold zig zag; split <;> split <;> omega

/-- How many bits a number below 256 has. -/
def bl8 (x : Int) : Int :=
  if x < 1 then 0 else if x < 2 then 1 else if x < 4 then 2 else if x < 8 then 3 else if x < 16 then 4 else if x < 32 then 5 else if x < 64 then 6 else if x < 128 then 7 else 8
def bl16 (x : Int) : Int := if 256 ≤ x then 8 + bl8 (x / 256) else bl8 x
def bl32 (x : Int) : Int := if 65536 ≤ x then 16 + bl16 (x / 65536) else bl16 x
/-- How many bits a number below 2^64 has. -/
def bl64 (x : Int) : Int := if 4294967296 ≤ x then 32 + bl32 (x / 4294967296) else bl32 x

/-- What is asked of a count of bits. -/
def IsBl (m : Nat) (b : Int) (k : Nat) : Prop := ∃ n : Nat, b = n ∧ n ≤ k ∧ m < 2 ^ n ∧ (1 ≤ m → 1 ≤ n ∧ 2 ^ (n - 1) ≤ m)
theorem bl8_is (m : Nat) (h : m < 256) : IsBl m (bl8 m) 8 := by
  unfold bl8
  repeat' split
  · exact ⟨0, rfl, by omega, by omega, by omega⟩
  · exact ⟨1, rfl, by omega, by omega, by omega⟩
  · exact ⟨2, rfl, by omega, by omega, by omega⟩
  · exact ⟨3, rfl, by omega, by omega, by omega⟩
  · exact ⟨4, rfl, by omega, by omega, by omega⟩
  · exact ⟨5, rfl, by omega, by omega, by omega⟩
  · exact ⟨6, rfl, by omega, by omega, by omega⟩
  · exact ⟨7, rfl, by omega, by omega, by omega⟩
  · exact ⟨8, rfl, by omega, by omega, by omega⟩
theorem isBl_up (m j k : Nat) (b : Int) (hm : 2 ^ j ≤ m) (h : IsBl (m / 2 ^ j) b k) : IsBl m (j + b) (j + k) := by
  obtain ⟨n, rfl, hn, hlt, hle⟩ := h
  have h1 : 1 ≤ m / 2 ^ j := (Nat.le_div_iff_mul_le (Nat.two_pow_pos j)).2 (by omega)
  obtain ⟨hn1, hp⟩ := hle h1
  refine ⟨j + n, by omega, by omega, ?_, fun _ => ⟨by omega, ?_⟩⟩
  · rw [Nat.pow_add, Nat.mul_comm]; exact (Nat.div_lt_iff_lt_mul (Nat.two_pow_pos j)).1 hlt
  · rw [show j + n - 1 = (n - 1) + j from by omega, Nat.pow_add]; exact (Nat.le_div_iff_mul_le (Nat.two_pow_pos j)).1 hp
theorem isBl_wide {m k l : Nat} {b : Int} (h : IsBl m b k) (hl : k ≤ l) : IsBl m b l := by
  obtain ⟨n, a, c, d⟩ := h; exact ⟨n, a, by omega, d⟩
theorem bl16_is (m : Nat) (h : m < 65536) : IsBl m (bl16 m) 16 := by
  unfold bl16
  split
  · have := isBl_up m 8 8 (bl8 ((m / 256 : Nat))) (by omega) (bl8_is _ (by omega))
    simpa using this
  · exact isBl_wide (bl8_is m (by omega)) (by omega)
theorem bl32_is (m : Nat) (h : m < 4294967296) : IsBl m (bl32 m) 32 := by
  unfold bl32
  split
  · have := isBl_up m 16 16 (bl16 ((m / 65536 : Nat))) (by omega) (bl16_is _ (by omega))
    simpa using this
  · exact isBl_wide (bl16_is m (by omega)) (by omega)
theorem bl64_is (m : Nat) (h : m < 18446744073709551616) : IsBl m (bl64 m) 64 := by
  unfold bl64
  split
  · have := isBl_up m 32 32 (bl32 ((m / 4294967296 : Nat))) (by omega) (bl32_is _ (by omega))
    simpa using this
  · exact isBl_wide (bl32_is m (by omega)) (by omega)

/-- One where v has come to c, else nothing. -/
def st (c v : Int) : Nat := if c ≤ v then 1 else 0
theorem st_le (c v : Int) : st c v ≤ 1 := by unfold st; split <;> omega
theorem st_mono (c v w : Int) (h : v ≤ w) : st c v ≤ st c w := by unfold st; split <;> split <;> omega
theorem st_yes {c v : Int} (h : c ≤ v) : st c v = 1 := if_pos h
theorem st_no {c v : Int} (h : v < c) : st c v = 0 := if_neg (by omega)
/-- How many groups of seven bits a number below 2^64 has. -/
def sz (v : Int) : Nat := 1 + st 128 v + st 16384 v + st 2097152 v + st 268435456 v + st 34359738368 v + st 4398046511104 v + st 562949953421312 v + st 72057594037927936 v + st 9223372036854775808 v
theorem sz_bd (v : Int) : 1 ≤ sz v ∧ sz v ≤ 10 := by
  unfold sz
  have := st_le 128 v
  have := st_le 16384 v
  have := st_le 2097152 v
  have := st_le 268435456 v
  have := st_le 34359738368 v
  have := st_le 4398046511104 v
  have := st_le 562949953421312 v
  have := st_le 72057594037927936 v
  have := st_le 9223372036854775808 v
  omega
theorem sz_mono (v w : Int) (h : v ≤ w) : sz v ≤ sz w := by
  unfold sz
  have := st_mono 128 v w h
  have := st_mono 16384 v w h
  have := st_mono 2097152 v w h
  have := st_mono 268435456 v w h
  have := st_mono 34359738368 v w h
  have := st_mono 4398046511104 v w h
  have := st_mono 562949953421312 v w h
  have := st_mono 72057594037927936 v w h
  have := st_mono 9223372036854775808 v w h
  omega
theorem sz_1 (v : Int) (h2 : v < 128) : sz v = 1 := by
  unfold sz
  rw [st_no (c := 128) (by omega), st_no (c := 16384) (by omega), st_no (c := 2097152) (by omega), st_no (c := 268435456) (by omega), st_no (c := 34359738368) (by omega), st_no (c := 4398046511104) (by omega), st_no (c := 562949953421312) (by omega), st_no (c := 72057594037927936) (by omega), st_no (c := 9223372036854775808) (by omega)]
theorem sz_2 (v : Int) (h1 : 128 ≤ v) (h2 : v < 16384) : sz v = 2 := by
  unfold sz
  rw [st_yes (c := 128) (by omega), st_no (c := 16384) (by omega), st_no (c := 2097152) (by omega), st_no (c := 268435456) (by omega), st_no (c := 34359738368) (by omega), st_no (c := 4398046511104) (by omega), st_no (c := 562949953421312) (by omega), st_no (c := 72057594037927936) (by omega), st_no (c := 9223372036854775808) (by omega)]
theorem sz_3 (v : Int) (h1 : 16384 ≤ v) (h2 : v < 2097152) : sz v = 3 := by
  unfold sz
  rw [st_yes (c := 128) (by omega), st_yes (c := 16384) (by omega), st_no (c := 2097152) (by omega), st_no (c := 268435456) (by omega), st_no (c := 34359738368) (by omega), st_no (c := 4398046511104) (by omega), st_no (c := 562949953421312) (by omega), st_no (c := 72057594037927936) (by omega), st_no (c := 9223372036854775808) (by omega)]
theorem sz_4 (v : Int) (h1 : 2097152 ≤ v) (h2 : v < 268435456) : sz v = 4 := by
  unfold sz
  rw [st_yes (c := 128) (by omega), st_yes (c := 16384) (by omega), st_yes (c := 2097152) (by omega), st_no (c := 268435456) (by omega), st_no (c := 34359738368) (by omega), st_no (c := 4398046511104) (by omega), st_no (c := 562949953421312) (by omega), st_no (c := 72057594037927936) (by omega), st_no (c := 9223372036854775808) (by omega)]
theorem sz_5 (v : Int) (h1 : 268435456 ≤ v) (h2 : v < 34359738368) : sz v = 5 := by
  unfold sz
  rw [st_yes (c := 128) (by omega), st_yes (c := 16384) (by omega), st_yes (c := 2097152) (by omega), st_yes (c := 268435456) (by omega), st_no (c := 34359738368) (by omega), st_no (c := 4398046511104) (by omega), st_no (c := 562949953421312) (by omega), st_no (c := 72057594037927936) (by omega), st_no (c := 9223372036854775808) (by omega)]
theorem sz_6 (v : Int) (h1 : 34359738368 ≤ v) (h2 : v < 4398046511104) : sz v = 6 := by
  unfold sz
  rw [st_yes (c := 128) (by omega), st_yes (c := 16384) (by omega), st_yes (c := 2097152) (by omega), st_yes (c := 268435456) (by omega), st_yes (c := 34359738368) (by omega), st_no (c := 4398046511104) (by omega), st_no (c := 562949953421312) (by omega), st_no (c := 72057594037927936) (by omega), st_no (c := 9223372036854775808) (by omega)]
theorem sz_7 (v : Int) (h1 : 4398046511104 ≤ v) (h2 : v < 562949953421312) : sz v = 7 := by
  unfold sz
  rw [st_yes (c := 128) (by omega), st_yes (c := 16384) (by omega), st_yes (c := 2097152) (by omega), st_yes (c := 268435456) (by omega), st_yes (c := 34359738368) (by omega), st_yes (c := 4398046511104) (by omega), st_no (c := 562949953421312) (by omega), st_no (c := 72057594037927936) (by omega), st_no (c := 9223372036854775808) (by omega)]
theorem sz_8 (v : Int) (h1 : 562949953421312 ≤ v) (h2 : v < 72057594037927936) : sz v = 8 := by
  unfold sz
  rw [st_yes (c := 128) (by omega), st_yes (c := 16384) (by omega), st_yes (c := 2097152) (by omega), st_yes (c := 268435456) (by omega), st_yes (c := 34359738368) (by omega), st_yes (c := 4398046511104) (by omega), st_yes (c := 562949953421312) (by omega), st_no (c := 72057594037927936) (by omega), st_no (c := 9223372036854775808) (by omega)]
theorem sz_9 (v : Int) (h1 : 72057594037927936 ≤ v) (h2 : v < 9223372036854775808) : sz v = 9 := by
  unfold sz
  rw [st_yes (c := 128) (by omega), st_yes (c := 16384) (by omega), st_yes (c := 2097152) (by omega), st_yes (c := 268435456) (by omega), st_yes (c := 34359738368) (by omega), st_yes (c := 4398046511104) (by omega), st_yes (c := 562949953421312) (by omega), st_yes (c := 72057594037927936) (by omega), st_no (c := 9223372036854775808) (by omega)]
theorem sz_10 (v : Int) (h1 : 9223372036854775808 ≤ v) : sz v = 10 := by
  unfold sz
  rw [st_yes (c := 128) (by omega), st_yes (c := 16384) (by omega), st_yes (c := 2097152) (by omega), st_yes (c := 268435456) (by omega), st_yes (c := 34359738368) (by omega), st_yes (c := 4398046511104) (by omega), st_yes (c := 562949953421312) (by omega), st_yes (c := 72057594037927936) (by omega), st_yes (c := 9223372036854775808) (by omega)]
theorem sz_group (v q : Nat) (hq : q ≤ 9) (h1 : q = 0 ∨ 2 ^ (7 * q) ≤ v) (h2 : v < 2 ^ (7 * q + 7)) : sz v = q + 1 := by
  have hc : q = 0 ∨ q = 1 ∨ q = 2 ∨ q = 3 ∨ q = 4 ∨ q = 5 ∨ q = 6 ∨ q = 7 ∨ q = 8 ∨ q = 9 := by omega
  rcases hc with rfl | rfl | rfl | rfl | rfl | rfl | rfl | rfl | rfl | rfl
  · exact sz_1 v (by omega)
  · exact sz_2 v (by omega) (by omega)
  · exact sz_3 v (by omega) (by omega)
  · exact sz_4 v (by omega) (by omega)
  · exact sz_5 v (by omega) (by omega)
  · exact sz_6 v (by omega) (by omega)
  · exact sz_7 v (by omega) (by omega)
  · exact sz_8 v (by omega) (by omega)
  · exact sz_9 v (by omega) (by omega)
  · exact sz_10 v (by omega)

/-- The bits of 'v or 1', in groups of seven. -/
theorem sz_of_bits (v : Nat) (h : v < 18446744073709551616) : (bl64 ((v / 2 * 2 + 1 : Nat)) + 7 - 1) / 7 = (sz v : Int) := by
  obtain ⟨n, hb, hn, hlt, hle⟩ := bl64_is (v / 2 * 2 + 1) (by omega)
  obtain ⟨hn1, hp⟩ := hle (by omega)
  have hq : (n - 1) / 7 ≤ 9 := by omega
  have e1 : 2 ^ (7 * ((n - 1) / 7)) ≤ 2 ^ (n - 1) := Nat.pow_le_pow_right (by omega) (by omega)
  have e2 : 2 ^ n ≤ 2 ^ (7 * ((n - 1) / 7) + 7) := Nat.pow_le_pow_right (by omega) (by omega)
  have hl : (n - 1) / 7 = 0 ∨ 2 ^ (7 * ((n - 1) / 7)) ≤ v := by
    by_cases h0 : (n - 1) / 7 = 0
    · exact .inl h0
    · right
      have hev : 2 ^ (7 * ((n - 1) / 7)) = 2 * 2 ^ (7 * ((n - 1) / 7) - 1) := by
        rw [← Nat.pow_succ']; congr 1; omega
      omega
  rw [hb]
  rw [sz_group v ((n - 1) / 7) hq hl (by omega)]
  omega


/-- The table of the library's: the bits of each number below 256. -/
def tab : ByteArray := { data := #[0, 1, 2, 2, 3, 3, 3, 3, 4, 4, 4, 4, 4, 4, 4, 4, 5, 5, 5, 5, 5, 5, 5, 5, 5, 5, 5, 5, 5, 5, 5, 5, 6, 6, 6, 6, 6, 6, 6, 6, 6, 6, 6, 6, 6, 6, 6, 6, 6, 6, 6, 6, 6, 6, 6, 6, 6, 6, 6, 6, 6, 6, 6, 6, 7, 7, 7, 7, 7, 7, 7, 7, 7, 7, 7, 7, 7, 7, 7, 7, 7, 7, 7, 7, 7, 7, 7, 7, 7, 7, 7, 7, 7, 7, 7, 7, 7, 7, 7, 7, 7, 7, 7, 7, 7, 7, 7, 7, 7, 7, 7, 7, 7, 7, 7, 7, 7, 7, 7, 7, 7, 7, 7, 7, 7, 7, 7, 7, 8, 8, 8, 8, 8, 8, 8, 8, 8, 8, 8, 8, 8, 8, 8, 8, 8, 8, 8, 8, 8, 8, 8, 8, 8, 8, 8, 8, 8, 8, 8, 8, 8, 8, 8, 8, 8, 8, 8, 8, 8, 8, 8, 8, 8, 8, 8, 8, 8, 8, 8, 8, 8, 8, 8, 8, 8, 8, 8, 8, 8, 8, 8, 8, 8, 8, 8, 8, 8, 8, 8, 8, 8, 8, 8, 8, 8, 8, 8, 8, 8, 8, 8, 8, 8, 8, 8, 8, 8, 8, 8, 8, 8, 8, 8, 8, 8, 8, 8, 8, 8, 8, 8, 8, 8, 8, 8, 8, 8, 8, 8, 8, 8, 8, 8, 8, 8, 8, 8, 8, 8, 8, 8, 8, 8, 8, 8, 8] }
theorem tab_size : tab.size = 256 := by decide +kernel
theorem tab_all : ∀ k : Fin 256, ((tab[k.val]'(by rw [tab_size]; exact k.isLt)).toNat : Int) = bl8 k.val := by decide +kernel
theorem tab_get (y : Int) (h0 : 0 ≤ y) (h1 : y < 256) (h : y.toNat < tab.size) : ((tab[y.toNat]'h).toNat : Int) = bl8 y := by
  have e := tab_all ⟨y.toNat, by omega⟩
  rw [show ((⟨y.toNat, by omega⟩ : Fin 256).val : Int) = y from by simp; omega] at e
  exact e
theorem bl_56 (a : Int) (x1 : 4294967296 ≤ a) (x2 : 65536 ≤ a / 4294967296) (x3 : 256 ≤ a / 4294967296 / 65536) : bl64 a = 56 + bl8 (a / 4294967296 / 65536 / 256) := by
  unfold bl64; rw [if_pos (by omega)]; unfold bl32; rw [if_pos (by omega)]; unfold bl16; rw [if_pos (by omega)]; try omega
theorem bl_48 (a : Int) (x1 : 4294967296 ≤ a) (x2 : 65536 ≤ a / 4294967296) (x3 : a / 4294967296 / 65536 < 256) : bl64 a = 48 + bl8 (a / 4294967296 / 65536) := by
  unfold bl64; rw [if_pos (by omega)]; unfold bl32; rw [if_pos (by omega)]; unfold bl16; rw [if_neg (by omega)]; try omega
theorem bl_40 (a : Int) (x1 : 4294967296 ≤ a) (x2 : a / 4294967296 < 65536) (x3 : 256 ≤ a / 4294967296) : bl64 a = 40 + bl8 (a / 4294967296 / 256) := by
  unfold bl64; rw [if_pos (by omega)]; unfold bl32; rw [if_neg (by omega)]; unfold bl16; rw [if_pos (by omega)]; try omega
theorem bl_32 (a : Int) (x1 : 4294967296 ≤ a) (x2 : a / 4294967296 < 65536) (x3 : a / 4294967296 < 256) : bl64 a = 32 + bl8 (a / 4294967296) := by
  unfold bl64; rw [if_pos (by omega)]; unfold bl32; rw [if_neg (by omega)]; unfold bl16; rw [if_neg (by omega)]; try omega
theorem bl_24 (a : Int) (x1 : a < 4294967296) (x2 : 65536 ≤ a) (x3 : 256 ≤ a / 65536) : bl64 a = 24 + bl8 (a / 65536 / 256) := by
  unfold bl64; rw [if_neg (by omega)]; unfold bl32; rw [if_pos (by omega)]; unfold bl16; rw [if_pos (by omega)]; try omega
theorem bl_16 (a : Int) (x1 : a < 4294967296) (x2 : 65536 ≤ a) (x3 : a / 65536 < 256) : bl64 a = 16 + bl8 (a / 65536) := by
  unfold bl64; rw [if_neg (by omega)]; unfold bl32; rw [if_pos (by omega)]; unfold bl16; rw [if_neg (by omega)]; try omega
theorem bl_8 (a : Int) (x1 : a < 4294967296) (x2 : a < 65536) (x3 : 256 ≤ a) : bl64 a = 8 + bl8 (a / 256) := by
  unfold bl64; rw [if_neg (by omega)]; unfold bl32; rw [if_neg (by omega)]; unfold bl16; rw [if_pos (by omega)]; try omega
theorem bl_0 (a : Int) (_x1 : a < 4294967296) (_x2 : a < 65536) (x3 : a < 256) : bl64 a = 0 + bl8 (a) := by
  unfold bl64; rw [if_neg (by omega)]; unfold bl32; rw [if_neg (by omega)]; unfold bl16; rw [if_neg (by omega)]; try omega

end Go.Proofs.YtcdgfghcmeadgaaDoor
namespace Go.Proofs.YtcdgfghcmeadgaaDoor
set_option linter.unusedVariables false

/-- Each number is a byte. -/
def Bytes (xs : List Int) : Prop := ∀ i, i < xs.length → 0 ≤ xs[i]?.getD 0 ∧ xs[i]?.getD 0 < 256
/-- Groups of seven bits, the lowest first, as a number. -/
def val : List Int → Int
  | [] => 0
  | c :: l => c % 128 + 128 * val l
theorem val_nonneg (l : List Int) : 0 ≤ val l := by
  induction l with
  | nil => simp [val]
  | cons c l ih => simp only [val]; omega
theorem val_snoc (l : List Int) (c : Int) : val (l ++ [c]) = val l + 2 ^ (7 * l.length) * (c % 128) := by
  induction l with
  | nil => simp [val]
  | cons x l ih =>
    simp only [List.cons_append, val, ih, List.length_cons]
    rw [show 7 * (l.length + 1) = 7 * l.length + 7 from by omega, Int.pow_add, Int.mul_add]
    rw [show (2 : Int) ^ 7 = 128 from rfl, Int.mul_comm (2 ^ (7 * l.length)) 128, ← Int.mul_assoc, Int.add_assoc]
theorem val_lt (l : List Int) : val l < 2 ^ (7 * l.length) := by
  induction l with
  | nil => simp [val]
  | cons x l ih =>
    simp only [val, List.length_cons]
    rw [show 7 * (l.length + 1) = 7 * l.length + 7 from by omega, Int.pow_add, show (2 : Int) ^ 7 = 128 from rfl]
    omega
theorem pow_pos2 (n : Nat) : (0 : Int) < 2 ^ n := Int.pow_pos (by omega)

theorem take_snoc (l : List Int) (k : Nat) (h : k < l.length) : l.take (k + 1) = l.take k ++ [l[k]?.getD 0] := by
  rw [List.take_succ_eq_append_getElem h]; simp [h]

/-- How many bytes of 128 or above stand at the beginning. -/
def lead : List Int → Nat
  | [] => 0
  | c :: l => if 128 ≤ c then lead l + 1 else 0
theorem lead_eq : ∀ (xs : List Int) (k : Nat), k ≤ xs.length → (∀ j, j < k → 128 ≤ xs[j]?.getD 0) → (k = xs.length ∨ xs[k]?.getD 0 < 128) → lead xs = k
  | [], k, hk, _, _ => by simp at hk; subst hk; rfl
  | c :: l, 0, _, _, h2 => by
    rcases h2 with h2 | h2
    · simp at h2
    · simp at h2; simp [lead]; omega
  | c :: l, k + 1, hk, h1, h2 => by
    have h0 := h1 0 (by omega)
    simp at h0 hk
    have := lead_eq l k hk (fun j hj => by have := h1 (j + 1) (by omega); simpa using this) (by simpa using h2)
    simp [lead, h0, this]
theorem lead_ge : ∀ (xs : List Int) (k : Nat), k ≤ xs.length → (∀ j, j < k → 128 ≤ xs[j]?.getD 0) → k ≤ lead xs
  | xs, 0, _, _ => Nat.zero_le _
  | [], k + 1, hk, _ => by simp at hk
  | c :: l, k + 1, hk, h1 => by
    have h0 := h1 0 (by omega)
    simp at h0 hk
    have := lead_ge l k hk (fun j hj => by have := h1 (j + 1) (by omega); simpa using this)
    simp [lead, h0, this]

/-- What the bytes begin with: the number, how many bytes it has, and the error's number. -/
def rd (xs : List Int) : Int × Int × Int :=
  if lead xs = xs.length ∧ xs.length < 10 then (0, 0, 10)
  else if 10 ≤ lead xs ∨ lead xs = xs.length ∨ (lead xs = 9 ∧ (1 : Int) < xs[9]?.getD 0) then (0, 0, 11)
  else if 0 < lead xs ∧ xs[lead xs]?.getD 0 = 0 then (0, 0, 12)
  else (val (xs.take (lead xs + 1)), (lead xs : Int) + 1, 0)

theorem rd_short (xs : List Int) (h : ∀ j, j < xs.length → 128 ≤ xs[j]?.getD 0) (hl : xs.length < 10) : rd xs = (0, 0, 10) := by
  unfold rd; rw [lead_eq xs xs.length (Nat.le_refl _) h (.inl rfl), if_pos ⟨rfl, hl⟩]
theorem rd_long (xs : List Int) (h : ∀ j, j < 10 → 128 ≤ xs[j]?.getD 0) (hl : 10 ≤ xs.length) : rd xs = (0, 0, 11) := by
  have := lead_ge xs 10 hl h
  unfold rd; rw [if_neg (by omega), if_pos (.inl this)]
theorem rd_nine (xs : List Int) (h : ∀ j, j < 9 → 128 ≤ xs[j]?.getD 0) (hl : 9 < xs.length) (h1 : xs[9]?.getD 0 < 128) (h2 : (1 : Int) < xs[9]?.getD 0) : rd xs = (0, 0, 11) := by
  unfold rd; rw [lead_eq xs 9 (by omega) h (.inr h1), if_neg (by omega), if_pos (.inr (.inr ⟨rfl, h2⟩))]
theorem rd_form (xs : List Int) (k : Nat) (h : ∀ j, j < k → 128 ≤ xs[j]?.getD 0) (hl : k < xs.length) (h10 : k < 10) (h0 : 0 < k) (h2 : xs[k]?.getD 0 = 0) : rd xs = (0, 0, 12) := by
  unfold rd; rw [lead_eq xs k (by omega) h (.inr (by omega)), if_neg (by omega), if_neg, if_pos ⟨h0, h2⟩]
  rintro (h | h | ⟨h, h'⟩)
  · omega
  · omega
  · subst h; omega
theorem rd_ok (xs : List Int) (k : Nat) (h : ∀ j, j < k → 128 ≤ xs[j]?.getD 0) (hl : k < xs.length) (h10 : k < 10) (h1 : xs[k]?.getD 0 < 128) (h9 : k = 9 → xs[k]?.getD 0 ≤ 1) (h2 : 0 < k → xs[k]?.getD 0 ≠ 0) :
    rd xs = (val (xs.take (k + 1)), (k : Int) + 1, 0) := by
  unfold rd; rw [lead_eq xs k (by omega) h (.inr h1), if_neg (by omega), if_neg, if_neg (fun ⟨a, b⟩ => h2 a b)]
  rintro (h | h | ⟨h, h'⟩)
  · omega
  · omega
  · subst h; have := h9 rfl; omega

/-- What is read fits 64 bits. -/
theorem val_fits (xs : List Int) (k : Nat) (hl : k < xs.length) (h10 : k < 10) (h0 : 0 ≤ xs[k]?.getD 0) (h1 : xs[k]?.getD 0 < 128) (h9 : k = 9 → xs[k]?.getD 0 ≤ 1) : val (xs.take (k + 1)) < 18446744073709551616 := by
  have hlen : (xs.take (k + 1)).length = k + 1 := by simp; omega
  by_cases hk : k = 9
  · subst hk
    rw [take_snoc xs 9 hl, val_snoc]
    have hln : (xs.take 9).length = 9 := by simp; omega
    have := val_lt (xs.take 9)
    rw [hln] at this ⊢
    have h9' := h9 rfl
    have e : (2 : Int) ^ (7 * 9) = 9223372036854775808 := by decide
    rw [e] at this ⊢
    rw [Int.emod_eq_of_lt h0 (by omega)]
    omega
  · have := val_lt (xs.take (k + 1))
    rw [hlen] at this
    have hp : (2 : Int) ^ (7 * (k + 1)) ≤ 2 ^ 63 := by
      have : (2 : Nat) ^ (7 * (k + 1)) ≤ 2 ^ 63 := Nat.pow_le_pow_right (by omega) (by omega)
      exact_mod_cast this
    have e : (2 : Int) ^ 63 = 9223372036854775808 := by decide
    omega
theorem val_drop_le (l : List Int) (m : Nat) : val (l.drop m) ≤ val l := by
  induction m generalizing l with
  | zero => simp
  | succ m ih =>
    cases l with
    | nil => simp
    | cons c l =>
      have := ih l
      have h0 := val_nonneg l
      simp only [List.drop_succ_cons, val]
      omega
theorem val_drop (l : List Int) (m : Nat) (h : m < l.length) : val (l.drop m) = l[m]?.getD 0 % 128 + 128 * val (l.drop (m + 1)) := by
  rw [List.drop_eq_getElem_cons h, val]; simp [h]

/-- A group behind the others, as a sum. -/
theorem rd_bd (xs : List Int) (hx : Bytes xs) : (0 ≤ (rd xs).1 ∧ (rd xs).1 < 18446744073709551616) ∧ (0 ≤ (rd xs).2.1 ∧ (rd xs).2.1 ≤ 10 ∧ (rd xs).2.1 ≤ xs.length) ∧ (0 ≤ (rd xs).2.2 ∧ (rd xs).2.2 ≤ 12) := by
  have hle : lead xs ≤ xs.length := by
    clear hx
    induction xs with
    | nil => simp [lead]
    | cons c l ih => simp only [lead, List.length_cons]; split <;> omega
  have hat : lead xs < xs.length → xs[lead xs]?.getD 0 < 128 := by
    clear hx hle
    induction xs with
    | nil => simp
    | cons c l ih =>
      simp only [lead, List.length_cons]
      split
      · intro h; simpa using ih (by omega)
      · intro _; simp; omega
  unfold rd
  split
  · simp
  · split
    · simp
    · split
      · simp
      · rename_i h1 h2 h3
        have hlt : lead xs < xs.length := by omega
        have hb := hx _ hlt
        have := val_nonneg (xs.take (lead xs + 1))
        have hf := val_fits xs (lead xs) hlt (by omega) hb.1 (hat hlt) (fun h => by rw [h] at h2 ⊢; omega)
        simp only
        omega
end Go.Proofs.YtcdgfghcmeadgaaDoor
namespace Go.Proofs.YtcdgfghcmeadgaaDoor
set_option linter.unusedVariables false
open Go.RowKit

theorem ret_int {k : IntKind} {a b : Int} (h : a = b) : Ending.returned (.int k a) = .returned (.int k b) := by rw [h]

theorem tab_step (c y : Int) (h0 : 0 ≤ y) (h1 : y < 256) (c0 : 0 ≤ c) (c1 : c ≤ 56) (h : y.toNat < tab.size) : wrap64 (c + wrap64 ((tab[y.toNat]'h).toNat : Int)) = c + bl8 y := by
  rw [tab_get y h0 h1 h]
  have hb : 0 ≤ bl8 y ∧ bl8 y ≤ 8 := by unfold bl8; repeat' split
                                        all_goals omega
  have e1 : wrap64 (bl8 y) = bl8 y := IntWalk.wrap64_in _ ⟨by omega, by omega⟩
  rw [e1]
  exact IntWalk.wrap64_in _ ⟨by omega, by omega⟩
theorem tab_step0 (y : Int) (h0 : 0 ≤ y) (h1 : y < 256) (h : y.toNat < tab.size) : wrap64 (wrap64 ((tab[y.toNat]'h).toNat : Int)) = 0 + bl8 y := by
  have e := tab_step 0 y h0 h1 (by omega) (by omega) h
  rw [Int.zero_add] at e
  exact e
theorem or_one (v : Int) (h0 : 0 ≤ v) (h1 : v < 18446744073709551616) : bits .or .u64 v 1 = v / 2 * 2 + 1 := by
  have h := bits_or_u64_nat v.toNat 1 (by omega) (by omega)
  rw [Int.toNat_of_nonneg h0] at h
  refine Eq.trans h ?_
  have e : v.toNat ||| 1 = v.toNat / 2 * 2 + 1 := by
    apply Nat.eq_of_testBit_eq
    intro i
    cases i with
    | zero => simp
    | succ i =>
      rw [Nat.testBit_or, Nat.testBit_succ, Nat.testBit_succ, Nat.testBit_succ]
      rw [show (v.toNat / 2 * 2 + 1) / 2 = v.toNat / 2 from by omega, show (1 : Nat) / 2 = 0 from rfl, Nat.zero_testBit, Bool.or_false]
  rw [e]; omega

set_option maxRecDepth 20000 in
theorem len64_c (a : Int) (h1 : 0 ≤ a) (h2 : a < 18446744073709551616) (w : World) :
    Calls Tryd.prog 128 #[.int .u64 a] w fun e w' => e = .returned (.int .i64 (bl64 a)) ∧ w' = w := by
  go_enter Tryd.func128, Tryd.ntmps128
  go_wp2
  all_goals go_ret
  · exact ⟨ret_int ((tab_step 56 _ (by omega) (by omega) (by omega) (by omega) _).trans (bl_56 a (by assumption) (by assumption) (by assumption)).symm), rfl⟩
  · exact ⟨ret_int ((tab_step 48 _ (by omega) (by omega) (by omega) (by omega) _).trans (bl_48 a (by assumption) (by assumption) (by assumption)).symm), rfl⟩
  · exact ⟨ret_int ((tab_step 40 _ (by omega) (by omega) (by omega) (by omega) _).trans (bl_40 a (by assumption) (by assumption) (by assumption)).symm), rfl⟩
  · exact ⟨ret_int ((tab_step 32 _ (by omega) (by omega) (by omega) (by omega) _).trans (bl_32 a (by assumption) (by assumption) (by assumption)).symm), rfl⟩
  · exact ⟨ret_int ((tab_step 24 _ (by omega) (by omega) (by omega) (by omega) _).trans (bl_24 a (by assumption) (by assumption) (by assumption)).symm), rfl⟩
  · exact ⟨ret_int ((tab_step 16 _ (by omega) (by omega) (by omega) (by omega) _).trans (bl_16 a (by assumption) (by assumption) (by assumption)).symm), rfl⟩
  · exact ⟨ret_int ((tab_step 8 _ (by omega) (by omega) (by omega) (by omega) _).trans (bl_8 a (by assumption) (by assumption) (by assumption)).symm), rfl⟩
  · exact ⟨ret_int ((tab_step0 _ (by omega) (by omega) _).trans (bl_0 a (by assumption) (by assumption) (by assumption)).symm), rfl⟩

/-- A slice of integers of a kind that can be read: these are its elements. -/
def Seg (k : IntKind) (w : World) (a : Option Addr) (len : Nat) (xs : List Int) : Prop :=
  xs.length = len ∧ (len = 0 ∨ ∃ b off, a = some ⟨b, off, none⟩ ∧ b < w.heap.size ∧ ∀ i, i < len → w.cell? ⟨b, off + i, none⟩ = some (.int k (xs[i]?.getD 0)))
theorem Seg.below {k : IntKind} {w w' : World} {a : Option Addr} {len : Nat} {xs : List Int} (h : Seg k w a len xs) (hb : Below w.heap.size w w') : Seg k w' a len xs := by
  refine ⟨h.1, ?_⟩
  rcases h.2 with h0 | ⟨b, off, ha, hlt, hc⟩
  · exact .inl h0
  · have := hb.size
    exact .inr ⟨b, off, ha, by omega, fun i hi => (hb.cell (p := ⟨b, off + i, none⟩) hlt).trans (hc i hi)⟩

theorem wf_u64 {n : Int} (h : (Lit.int .u64 n).wf = true) : 0 ≤ n ∧ n < 18446744073709551616 := by
  simp [Lit.wf, IntKind.min, IntKind.max, IntKind.signed, IntKind.bits] at h; omega
theorem wf_u8 {n : Int} (h : (Lit.int .u8 n).wf = true) : 0 ≤ n ∧ n < 256 := by
  simp [Lit.wf, IntKind.min, IntKind.max, IntKind.signed, IntKind.bits] at h; omega
/-- A slice that came in. -/
theorem seg_of_row {k : IntKind} {R : Nat} {w : World} {a : Option Addr} {len cap : Nat} {zs : List Int}
    (h : (a = none ∧ len = 0 ∧ cap = 0 ∧ zs = []) ∨
      ∃ x, a = some x ∧ len ≤ cap ∧ cap ≤ R ∧ zs.length = cap ∧ (∀ i, i < zs.length → w.cell? (x.add i) = some (.int k (zs.getD i 0))) ∧ ∀ n ∈ zs, (Lit.int k n).wf = true) :
    Seg k w a len (zs.take len) ∧ len ≤ cap ∧ cap ≤ R ∧ ∀ i, i < (zs.take len).length → (Lit.int k ((zs.take len)[i]?.getD 0)).wf = true := by
  rcases h with ⟨rfl, rfl, rfl, rfl⟩ | ⟨x, rfl, hl, hm, hz, hc, hw⟩
  · exact ⟨⟨rfl, .inl rfl⟩, Nat.le_refl _, Nat.zero_le _, fun i hi => by simp at hi⟩
  · refine ⟨⟨by simp; omega, ?_⟩, hl, hm, fun i hi => ?_⟩
    · by_cases h0 : len = 0
      · exact .inl h0
      · right
        obtain ⟨b, off, spot⟩ := x
        have hspot : spot = none := by simpa [Addr.add] using World.cell?_spot (hc 0 (by omega))
        subst hspot
        have hc0 : ∀ i, i < len → w.cell? ⟨b, off + i, none⟩ = some (.int k ((zs.take len)[i]?.getD 0)) := fun i hi => by
          have := hc i (by omega)
          rw [Go.WideShapes.add_plain] at this
          rw [this, List.getElem?_take_of_lt hi]; simp
        refine ⟨b, off, rfl, ?_, hc0⟩
        have := hc0 0 (by omega)
        rcases Nat.lt_or_ge b w.heap.size with h | h
        · exact h
        · simp [World.cell?, h] at this
    · have hi' : i < zs.length := by simp at hi; omega
      have hi2 : i < len := by simp at hi; omega
      rw [List.getElem?_take_of_lt hi2]
      exact hw _ (by simp [hi'])

/-- A slice that a literal makes. -/
theorem seg_new (w : World) (k : IntKind) (C : Array Value) (T : TypeId) (n : Nat) (xs : List Int) (hC : C = (xs.map (Value.int k)).toArray) (hn : n = xs.length) :
    Seg k (w.alloc (.cells C T)) (some ⟨w.heap.size, 0, none⟩) n xs := by
  subst hC hn
  refine ⟨rfl, .inr ⟨_, _, rfl, by simp, fun i hi => ?_⟩⟩
  rw [Nat.zero_add, World.cell?_alloc_new]
  simp [hi]

theorem seg_at (n0 : Nat) (w : World) (k : IntKind) (C : Array Value) (T : TypeId) (n : Nat) (xs : List Int) (h0 : n0 = w.heap.size) (hC : C = (xs.map (Value.int k)).toArray) (hn : n = xs.length) :
    Seg k (w.alloc (.cells C T)) (some ⟨n0, 0, none⟩) n xs := by
  subst h0; exact seg_new w k C T n xs hC hn

/-- How many groups all of them have. -/
def szs : List Int → Nat
  | [] => 0
  | v :: l => sz v + szs l
theorem szs_snoc (l : List Int) (v : Int) : szs (l ++ [v]) = szs l + sz v := by
  induction l with
  | nil => simp [szs]
  | cons x l ih => simp [szs, ih]; omega
theorem szs_le (l : List Int) : szs l ≤ 10 * l.length := by
  induction l with
  | nil => simp [szs]
  | cons x l ih => simp [szs]; have := sz_bd x; omega

/-- Each number is one of 64 bits without a sign. -/
def Bits64 (xs : List Int) : Prop := ∀ i, i < xs.length → 0 ≤ xs[i]?.getD 0 ∧ xs[i]?.getD 0 < 18446744073709551616

theorem bl64_or (v : Int) (h0 : 0 ≤ v) (h1 : v < 18446744073709551616) : (0 ≤ bl64 (v / 2 * 2 + 1) ∧ bl64 (v / 2 * 2 + 1) ≤ 64) ∧ (bl64 (v / 2 * 2 + 1) + 7 - 1) / 7 = (sz v : Int) := by
  obtain ⟨m, rfl⟩ := Int.eq_ofNat_of_zero_le h0
  have e : ((m : Int) / 2 * 2 + 1) = ((m / 2 * 2 + 1 : Nat) : Int) := by omega
  rw [e]
  refine ⟨?_, sz_of_bits m (by omega)⟩
  obtain ⟨n, hn, hle, _⟩ := bl64_is (m / 2 * 2 + 1) (by omega)
  rw [hn]; omega

set_option maxHeartbeats 400000 in
theorem size_c (a : Option Addr) (len cap : Nat) (xs : List Int) (w : World) (h : Seg .u64 w a len xs) (hx : Bits64 xs) (hl : len ≤ 1125899906842624) :
    Calls Tryd.prog 116 #[.slice a len cap] w fun e w' => e = .returned (.int .i64 (szs xs)) ∧ w' = w := by
  obtain ⟨hlen, h⟩ := h
  rcases h with rfl | ⟨b, off, rfl, hbw, hc⟩
  · obtain rfl : xs = [] := List.eq_nil_of_length_eq_zero hlen
    go_enter Tryd.func116, Tryd.ntmps116
    go_wp2
    refine wp_loop_rounds 1 ?_
    rw [rounds_succ]
    go_wp2
    go_ret
    exact ⟨rfl, rfl⟩
  · go_enter Tryd.func116, Tryd.ntmps116
    go_wp2
    go_loop [3, 8] (fun n i => ∃ k : Nat, k ≤ len ∧ i = .int .i64 k ∧ n = .int .i64 (szs (xs.take k))) (fun _ i => len - (intOf i).toNat)
    case atStart => exact ⟨0, Nat.zero_le _, rfl, rfl⟩
    case round =>
      obtain ⟨k, hk, rfl, rfl⟩ := hrel
      have hz := szs_le (xs.take k)
      have hzl : (xs.take k).length ≤ k := List.length_take_le _ _
      by_cases hlt : k < len
      · have hcell := hc k hlt
        have hxk := hx k (by omega)
        have hor := or_one (xs[k]?.getD 0) hxk.1 hxk.2
        have HS : Hid (szs (xs.take (k + 1)) = szs (xs.take k) + sz (xs[k]?.getD 0)) := by rw [take_snoc xs k (by omega)]; exact szs_snoc _ _
        obtain ⟨hbl, hsz⟩ := bl64_or (xs[k]?.getD 0) hxk.1 hxk.2
        have HZ : Hid ((bl64 (xs[k]?.getD 0 / 2 * 2 + 1) + 7 - 1) / 7 = (sz (xs[k]?.getD 0) : Int)) := hsz
        clear hc hx hlen hsz
        go_wp2_with (go_at_call 128; go_must (refine (len64_c _ (by omega) (by omega) _).mono ?_); rintro e w' ⟨rfl, rfl⟩)
        go_round
        case rel => exact ⟨k + 1, by omega, by go_num, congrArg (Value.int .i64) (by rw [HS.out, HZ.out]; omega)⟩
        case measure => simp [intOf]; omega
      · go_wp2
        go_ret
        exact ⟨ret_int (by rw [List.take_of_length_le (by omega)]), rfl⟩
end Go.Proofs.YtcdgfghcmeadgaaDoor
namespace Go.Proofs.YtcdgfghcmeadgaaDoor
open Go.RowKit
set_option linter.unusedVariables false

/-- Block g holds these integers, and nothing else. -/
def Row (k : IntKind) (T : TypeId) (w : World) (g : Nat) (xs : List Int) : Prop := w.heap[g]? = some (.cells (xs.map (Value.int k)).toArray T (0, 0))
theorem Row.lt {k T w g xs} (h : Row k T w g xs) : g < w.heap.size := lt_of_block h
theorem Row.cell {k T w g xs} (h : Row k T w g xs) (i : Nat) (hi : i < xs.length) : w.cell? ⟨g, i, none⟩ = some (.int k (xs[i]?.getD 0)) := by
  rw [cell_of_row w g i _ T (0, 0) h]; simp [hi]
theorem Row.free {k T w g xs} (h : Row k T w g xs) (i : Nat) : w.frozen? ⟨g, i, none⟩ = false := frozen_of_row w g i _ T h
theorem Row.set {k T w g xs} (h : Row k T w g xs) (i : Nat) (v : Int) : Row k T (w.setCell ⟨g, i, none⟩ (.int k v)) g (xs.set i v) := by
  unfold Row
  rw [heap_setCell_same w g i _ T _ h]; simp [List.map_set]
theorem Row.below {k T w w' g xs B} (h : Row k T w g xs) (hb : Below B w w') (hg : g < B) : Row k T w' g xs := (hb.block g hg).trans h
theorem Row.seg {k T w g xs} (h : Row k T w g xs) (len : Nat) (hl : len ≤ xs.length) : Seg k w (some ⟨g, 0, none⟩) len (xs.take len) := by
  refine ⟨by simp; omega, .inr ⟨g, 0, rfl, h.lt, fun i hi => ?_⟩⟩
  rw [Nat.zero_add, h.cell i (by omega), List.getElem?_take_of_lt hi]
theorem Row.segAll {k T w g xs} (h : Row k T w g xs) (len : Nat) (hl : len = xs.length) : Seg k w (some ⟨g, 0, none⟩) len xs := by
  have := h.seg len (by omega)
  rw [hl, List.take_length] at this
  rw [hl]; exact this
theorem Row.drewN {k T w g xs} (h : Row k T w g xs) (n : Nat) : Row k T (w.drewN n) g xs := by
  unfold Row
  rw [show (w.drewN n).heap = w.heap from by simp]
  exact h
/-- A row that 'make' has made. -/
theorem row_of_own {k T w base g n} {L : List Value} (xs : List Int) (h : w.ownsRow base T 1 (.slice (some ⟨g, 0, none⟩) n n) n L) (hL : L = xs.map (Value.int k)) : Row k T w g xs := by
  rcases h.2 with ⟨h', _⟩ | ⟨g', cap', cur, h', _, hg, _, _, hs, htake⟩
  · simp at h'
  · simp only [Value.slice.injEq, Option.some.injEq, Addr.mk.injEq, and_true, true_and] at h'
    obtain ⟨rfl, rfl⟩ := h'
    unfold Row
    rw [List.take_of_length_le (by rw [Array.length_toList, hs]; exact Nat.le_refl _)] at htake
    rw [hg, ← hL, ← htake]

theorem Tryd.infoU8 : (Tryd.prog.info? 5).map (fun i => (i.zero, i.size, i.bytes)) = some (some (.int .u8 0), 1, 1) := by kernel_rfl

/-- The elements of a slice, as cells. -/
theorem seg_news' {k : IntKind} {w : World} {a : Option Addr} {m : Nat} {ys : List Int} (h : Seg k w a m ys) (ad : Addr) (ha : a = some ad) : ∀ j u, (ys.map (Value.int k))[j]? = some u → w.cell? (ad.add j) = some u := by
  intro j u hj
  have hjl : j < ys.length := by
    rcases Nat.lt_or_ge j ys.length with h' | h'
    · exact h'
    · rw [List.getElem?_eq_none (by simpa using h')] at hj; cases hj
  rcases h.2 with h0 | ⟨b, off, hb, _, hc⟩
  · rw [h.1] at hjl; omega
  · rw [hb] at ha; cases ha
    rw [Go.WideShapes.add_plain, hc j (by rw [← h.1]; exact hjl), ← hj]
    simp [hjl]
end Go.Proofs.YtcdgfghcmeadgaaDoor
namespace Go.Proofs.YtcdgfghcmeadgaaDoor
open Go.RowKit
set_option linter.unusedVariables false

theorem well_c (g : Nat) (e : Int) (w : World) (h : w.cell? ⟨g, 0, none⟩ = some (.int .i64 e)) :
    Calls Tryd.prog 101 #[.pointer (some ⟨g, 0, none⟩)] w fun r w' => r = .returned (.bool (e == 0)) ∧ w' = w := by
  go_enter Tryd.func101, Tryd.ntmps101
  go_wp2
  go_ret
  exact ⟨rfl, rfl⟩

theorem fail_ok (g : Nat) (x : Int) (w : World) (h : w.cell? ⟨g, 0, none⟩ = some (.int .i64 0)) (hf : w.frozen? ⟨g, 0, none⟩ = false) :
    Calls Tryd.prog 102 #[.pointer (some ⟨g, 0, none⟩), .int .i64 x] w fun r w' => r = .returned (.tuple #[]) ∧ w' = w.setCell ⟨g, 0, none⟩ (.int .i64 x) := by
  go_enter Tryd.func102, Tryd.ntmps102
  go_wp2_with fail
  refine (well_c g 0 w h).mono ?_
  rintro e w1 ⟨rfl, rfl⟩
  go_wp2
  go_end0
  exact ⟨rfl, rfl⟩

theorem fail_no (g : Nat) (e x : Int) (w : World) (h : w.cell? ⟨g, 0, none⟩ = some (.int .i64 e)) (he : (e == 0) = false) :
    Calls Tryd.prog 102 #[.pointer (some ⟨g, 0, none⟩), .int .i64 x] w fun r w' => r = .returned (.tuple #[]) ∧ w' = w := by
  go_enter Tryd.func102, Tryd.ntmps102
  go_wp2_with fail
  refine (well_c g e w h).mono ?_
  rintro e w1 ⟨rfl, rfl⟩
  go_wp2
  go_end0
  exact ⟨rfl, rfl⟩

theorem must_so (g : Nat) (e x : Int) (w : World) (h : w.cell? ⟨g, 0, none⟩ = some (.int .i64 e)) :
    Calls Tryd.prog 72 #[.pointer (some ⟨g, 0, none⟩), .bool true, .int .i64 x] w fun r w' => r = .returned (.bool (e == 0)) ∧ w' = w := by
  go_enter Tryd.func72, Tryd.ntmps72
  go_wp2_with fail
  refine (well_c g e w h).mono ?_
  rintro e w1 ⟨rfl, rfl⟩
  go_wp2
  go_ret
  exact ⟨rfl, rfl⟩

theorem must_no (g : Nat) (e x : Int) (w : World) (h : w.cell? ⟨g, 0, none⟩ = some (.int .i64 e)) (he : (e == 0) = false) :
    Calls Tryd.prog 72 #[.pointer (some ⟨g, 0, none⟩), .bool false, .int .i64 x] w fun r w' => r = .returned (.bool false) ∧ w' = w := by
  go_enter Tryd.func72, Tryd.ntmps72
  go_wp2_with fail
  refine (fail_no g e x w h he).mono ?_
  rintro e w1 ⟨rfl, rfl⟩
  go_wp2_with fail
  refine (well_c g _ _ h).mono ?_
  rintro e w2 ⟨rfl, rfl⟩
  go_wp2
  go_ret
  exact ⟨rfl, rfl⟩

theorem must_ok (g : Nat) (x : Int) (w : World) (h : w.cell? ⟨g, 0, none⟩ = some (.int .i64 0)) (hf : w.frozen? ⟨g, 0, none⟩ = false) (hx : (x == 0) = false) :
    Calls Tryd.prog 72 #[.pointer (some ⟨g, 0, none⟩), .bool false, .int .i64 x] w fun r w' => r = .returned (.bool false) ∧ w' = w.setCell ⟨g, 0, none⟩ (.int .i64 x) := by
  have h2 : (w.setCell ⟨g, 0, none⟩ (.int .i64 x)).cell? ⟨g, 0, none⟩ = some (.int .i64 x) := World.cell?_setCell_same w _ _ h
  go_enter Tryd.func72, Tryd.ntmps72
  go_wp2_with fail
  refine (fail_ok g x w h hf).mono ?_
  rintro e w1 ⟨rfl, rfl⟩
  go_wp2_with fail
  refine (well_c g x _ h2).mono ?_
  rintro e w1 ⟨rfl, rfl⟩
  go_wp2
  go_ret
  exact ⟨rfl, rfl⟩
end Go.Proofs.YtcdgfghcmeadgaaDoor
namespace Go.Proofs.YtcdgfghcmeadgaaDoor
open Go.RowKit
set_option linter.unusedVariables false

theorem bytes_drop {xs : List Int} (h : Bytes xs) (k : Nat) : Bytes (xs.drop k) := fun i hi => by
  have := h (k + i) (by simp at hi; omega)
  rw [List.getElem?_drop]; exact this
theorem bytes_take {xs : List Int} (h : Bytes xs) (k : Nat) : Bytes (xs.take k) := fun i hi => by
  simp only [List.length_take] at hi
  rw [List.getElem?_take_of_lt (by omega)]
  exact h i (by omega)

/-- A Reader's block. -/
def Rdr (w : World) (g : Nat) (e : Int) (v : Value) (p : Int) : Prop := w.heap[g]? = some (.cells #[.int .i64 e, .bool true, v, .int .i64 p] 153 (0, 0))
theorem Rdr.c0 {w g e v p} (h : Rdr w g e v p) : w.cell? ⟨g, 0, none⟩ = some (.int .i64 e) := by rw [cell_of_row w g 0 _ _ _ h]; rfl
theorem Rdr.c1 {w g e v p} (h : Rdr w g e v p) : w.cell? ⟨g, 1, none⟩ = some (.bool true) := by rw [cell_of_row w g 1 _ _ _ h]; rfl
theorem Rdr.c2 {w g e v p} (h : Rdr w g e v p) : w.cell? ⟨g, 2, none⟩ = some v := by rw [cell_of_row w g 2 _ _ _ h]; rfl
theorem Rdr.c3 {w g e v p} (h : Rdr w g e v p) : w.cell? ⟨g, 3, none⟩ = some (.int .i64 p) := by rw [cell_of_row w g 3 _ _ _ h]; rfl
theorem Rdr.free {w g e v p} (h : Rdr w g e v p) (i : Nat) : w.frozen? ⟨g, i, none⟩ = false := frozen_of_row w g i _ _ h
theorem Rdr.setE {w g e v p} (h : Rdr w g e v p) (x : Int) : Rdr (w.setCell ⟨g, 0, none⟩ (.int .i64 x)) g x v p := by
  unfold Rdr; rw [heap_setCell_same w g 0 _ _ _ h]; rfl
theorem Rdr.setP {w g e v p} (h : Rdr w g e v p) (x : Int) : Rdr (w.setCell ⟨g, 3, none⟩ (.int .i64 x)) g e v x := by
  unfold Rdr; rw [heap_setCell_same w g 3 _ _ _ h]; rfl

theorem grownBy_cell (w : World) (g i : Nat) (v : Value) : w.grownBy (w.setCell ⟨g, i, none⟩ v) (some g) :=
  ⟨rfl, rfl, rfl, by simp [World.setCell], fun k _ hk => Below.heap_setCell _ _ _ _ (fun e => hk (by rw [e]))⟩
theorem gb_trans {a b c : World} {row : Option Nat} (h : a.grownBy b row) (k : b.grownBy c row) : a.grownBy c row :=
  ⟨k.os.trans h.os, k.tape.trans h.tape, k.output.trans h.output, Nat.le_trans h.size k.size, fun i hi hn => (k.block i (Nat.lt_of_lt_of_le hi h.size) hn).trans (h.block i hi hn)⟩
theorem gb_wide {a b : World} (h : a.grownBy b none) (row : Option Nat) : a.grownBy b row :=
  ⟨h.os, h.tape, h.output, h.size, fun i hi _ => h.block i hi (by simp)⟩
theorem grownBy_below {a b : World} (h : Below a.heap.size a b) (row : Option Nat) : a.grownBy b row :=
  ⟨h.os, h.tape, h.output, h.size, fun i hi _ => h.block i hi⟩
theorem gb_drewN {a b : World} {row : Option Nat} (h : a.grownBy b row) (n : Nat) : a.grownBy (b.drewN n) row :=
  gb_trans h (grownBy_below (below_drewN (Below.refl _ _) n) row)

theorem heap_new (w : World) (o : Obj) : (w.alloc o).heap[w.heap.size]? = some o := by
  show (w.heap.push o)[w.heap.size]? = _
  simp

theorem seg_from {w : World} {a : Option Addr} {len : Nat} {xs : List Int} (h : Seg .u8 w a len xs) (k : Nat) : Seg .u8 w (Option.map (fun x => x.add k) a) (len - k) (xs.drop k) := by
  refine ⟨by simp [h.1], ?_⟩
  rcases h.2 with h0 | ⟨b, off, rfl, hb, hc⟩
  · exact .inl (by omega)
  · rcases Nat.lt_or_ge k len with hk | hk
    · refine .inr ⟨b, off + k, ?_, hb, fun i hi => by rw [Nat.add_assoc, hc (k + i) (by omega), List.getElem?_drop]⟩
      rw [← Go.WideShapes.add_plain]; rfl
    · exact .inl (by omega)

/-- The bytes do not lie in block g. -/
def Off (a : Option Addr) (g : Nat) : Prop := ∀ b o s, a = some ⟨b, o, s⟩ → b ≠ g
theorem Seg.grew {k : IntKind} {w w' : World} {a : Option Addr} {len : Nat} {xs : List Int} {row : Option Nat} (h : Seg k w a len xs) (hg : w.grownBy w' row) (hne : ∀ g, row = some g → Off a g) : Seg k w' a len xs := by
  refine ⟨h.1, ?_⟩
  rcases h.2 with h0 | ⟨b, off, ha, hw, hc⟩
  · exact .inl h0
  · exact .inr ⟨b, off, ha, Nat.lt_of_lt_of_le hw hg.size, fun i hi => (World.cell?_of_block (w := w) (w' := w') (a := ⟨b, off + i, none⟩) (hg.block b hw (fun e => hne b e.symm _ _ _ ha rfl))).trans (hc i hi)⟩

/-- A Reader as plain data. -/
structure RS (w : World) (g : Nat) (a : Option Addr) (len cap : Nat) (xs : List Int) (e : Int) (p : Nat) : Prop where
  rdr : Rdr w g e (.slice a len cap) p
  seg : Seg .u8 w a len xs
  bytes : Bytes xs
  off : Off a g
  le : p ≤ len
  lc : len ≤ cap
  lm : len ≤ 140737488355328
  cm : cap ≤ 9223372036854775807
  nz : a = none → cap = 0
theorem RS.move {w w' g a len cap xs e p e' p'} (h : RS w g a len cap xs e p) (hg : w.grownBy w' (some g)) (hr : Rdr w' g e' (.slice a len cap) (p' : Nat)) (hp : p' ≤ len) : RS w' g a len cap xs e' p' :=
  ⟨hr, h.seg.grew hg (fun k hk => by cases hk; exact h.off), h.bytes, h.off, hp, h.lc, h.lm, h.cm, h.nz⟩
theorem RS.other {w w' g a len cap xs e p row} (h : RS w g a len cap xs e p) (hg : w.grownBy w' row) (h1 : row ≠ some g) (h2 : ∀ k, row = some k → Off a k) : RS w' g a len cap xs e p :=
  ⟨(hg.block g (lt_of_block h.rdr) (fun e => h1 e.symm)).trans h.rdr, h.seg.grew hg h2, h.bytes, h.off, h.le, h.lc, h.lm, h.cm, h.nz⟩
theorem RS.new {w w' g a len cap xs e p} (h : RS w g a len cap xs e p) (hg : w.grownBy w' none) : RS w' g a len cap xs e p := h.other hg (by simp) (by simp)
theorem RS.drewN {w g a len cap xs e p} (h : RS w g a len cap xs e p) (n : Nat) : RS (w.drewN n) g a len cap xs e p := h.new (gb_drewN (World.grownBy.refl _ _) n)

theorem err_c (g : Nat) (e : Int) (v : Value) (p : Int) (w : World) (h : Rdr w g e v p) :
    Calls Tryd.prog 97 #[.pointer (some ⟨g, 0, none⟩)] w fun r w' => r = .returned (.int .i64 e) ∧ w' = w := by
  have h0 := h.c0
  have h1 := h.c1
  clear h
  go_enter Tryd.func97, Tryd.ntmps97
  go_wp2
  go_ret
  exact ⟨rfl, rfl⟩
theorem ready_c (g : Nat) (e : Int) (v : Value) (p : Int) (w : World) (h : Rdr w g e v p) :
    Calls Tryd.prog 106 #[.pointer (some ⟨g, 0, none⟩)] w fun r w' => r = .returned (.bool (e == 0)) ∧ w' = w := by
  go_enter Tryd.func106, Tryd.ntmps106
  go_wp2_with fail
  refine (err_c g e v p w h).mono ?_
  rintro r w1 ⟨rfl, rfl⟩
  go_wp2
  go_ret
  exact ⟨rfl, rfl⟩

/-- An error of leb as pack names it. -/
def nm (e : Int) : Int := if e = 10 then 30 else if e = 11 then 31 else if e = 12 then 32 else e
theorem named_c (e : Int) (w : World) : Calls Tryd.prog 118 #[.int .i64 e] w fun r w' => r = .returned (.int .i64 (nm e)) ∧ w' = w := by
  by_cases h1 : e = 10
  · subst h1
    go_enter Tryd.func118, Tryd.ntmps118
    go_wp2
    go_ret
    exact ⟨rfl, rfl⟩
  · by_cases h2 : e = 11
    · subst h2
      go_enter Tryd.func118, Tryd.ntmps118
      go_wp2
      go_ret
      exact ⟨rfl, rfl⟩
    · by_cases h3 : e = 12
      · subst h3
        go_enter Tryd.func118, Tryd.ntmps118
        go_wp2
        go_ret
        exact ⟨rfl, rfl⟩
      · have HN : Hid (nm e = e) := by show nm e = e; simp [nm, h1, h2, h3]
        have b1 : (e == 10) = false := by simp [h1]
        have b2 : (e == 11) = false := by simp [h2]
        have b3 : (e == 12) = false := by simp [h3]
        clear h1 h2 h3
        go_enter Tryd.func118, Tryd.ntmps118
        go_wp2
        go_ret
        exact ⟨by rw [HN.out]; rfl, rfl⟩

theorem over_c (a : Option Addr) (len cap : Nat) (w : World) :
    Calls Tryd.prog 86 #[.slice a len cap] w fun r w' => r = .returned (.pointer (some ⟨w.heap.size, 0, none⟩)) ∧ Rdr w' w.heap.size 0 (.slice a len cap) 0 ∧ w.grownBy w' none := by
  go_enter Tryd.func86, Tryd.ntmps86
  go_wp2
  go_ret
  exact ⟨rfl, heap_new w _, World.grownBy_alloc _ _ _⟩

theorem RS.fails {w g a len cap xs e p} (h : RS w g a len cap xs e p) (x : Int) : RS (w.setCell ⟨g, 0, none⟩ (.int .i64 x)) g a len cap xs x p ∧ w.grownBy (w.setCell ⟨g, 0, none⟩ (.int .i64 x)) (some g) :=
  ⟨h.move (grownBy_cell _ _ _ _) (h.rdr.setE x) h.le, grownBy_cell _ _ _ _⟩
theorem RS.moves {w g a len cap xs e p} (h : RS w g a len cap xs e p) (q : Nat) (hq : q ≤ len) : RS (w.setCell ⟨g, 3, none⟩ (.int .i64 (q : Int))) g a len cap xs e q ∧ w.grownBy (w.setCell ⟨g, 3, none⟩ (.int .i64 (q : Int))) (some g) :=
  ⟨h.move (grownBy_cell _ _ _ _) (h.rdr.setP q) hq, grownBy_cell _ _ _ _⟩
theorem rfail_ok (g : Nat) (a : Option Addr) (len cap : Nat) (xs : List Int) (p : Nat) (x : Int) (w : World) (h : RS w g a len cap xs 0 p) :
    Calls Tryd.prog 102 #[.pointer (some ⟨g, 0, none⟩), .int .i64 x] w fun r w' => r = .returned (.tuple #[]) ∧ RS w' g a len cap xs x p ∧ w.grownBy w' (some g) :=
  (fail_ok g x w h.rdr.c0 (h.rdr.free 0)).mono (fun _ _ ⟨h1, h2⟩ => ⟨h1, by rw [h2]; exact (h.fails x)⟩)
theorem rmust_ok (g : Nat) (a : Option Addr) (len cap : Nat) (xs : List Int) (p : Nat) (x : Int) (w : World) (hx : (x == 0) = false) (h : RS w g a len cap xs 0 p) :
    Calls Tryd.prog 72 #[.pointer (some ⟨g, 0, none⟩), .bool false, .int .i64 x] w fun r w' => r = .returned (.bool false) ∧ RS w' g a len cap xs x p ∧ w.grownBy w' (some g) :=
  (must_ok g x w h.rdr.c0 (h.rdr.free 0) hx).mono (fun _ _ ⟨h1, h2⟩ => ⟨h1, by rw [h2]; exact (h.fails x)⟩)
end Go.Proofs.YtcdgfghcmeadgaaDoor
namespace Go.Proofs.YtcdgfghcmeadgaaDoor
open Go.RowKit
set_option linter.unusedVariables false

/-- Memory of one's own: block b begins with these bytes, and 'cap' places of it may be written. -/
structure Mine (w : World) (B b n cap : Nat) (xs : List Int) : Prop where
  len : xs.length = n
  le : n ≤ cap
  max : cap ≤ maxLen
  lo : B ≤ b
  lt : b < w.heap.size
  cell : ∀ i, i < n → w.cell? ⟨b, i, none⟩ = some (.int .u8 (xs[i]?.getD 0))
  there : ∀ i, i < cap → (w.cell? ⟨b, i, none⟩).isSome = true
  free : ∀ i, i < cap → w.frozen? ⟨b, i, none⟩ = false
theorem Mine.keep {w w' : World} {B b n cap k : Nat} {xs : List Int} (h : Mine w B b n cap xs) (hb : Below k w w') (hk : b < k) : Mine w' B b n cap xs :=
  ⟨h.len, h.le, h.max, h.lo, Nat.lt_of_lt_of_le h.lt hb.size, fun i hi => (hb.cell (p := ⟨b, i, none⟩) hk).trans (h.cell i hi), fun i hi => by rw [hb.cell (p := ⟨b, i, none⟩) hk]; exact h.there i hi, fun i hi => (hb.frozen (p := ⟨b, i, none⟩) hk).trans (h.free i hi)⟩
theorem Mine.seg {w B b n cap xs} (h : Mine w B b n cap xs) : Seg .u8 w (some ⟨b, 0, none⟩) n xs :=
  ⟨h.len, .inr ⟨b, 0, rfl, h.lt, fun i hi => by rw [Nat.zero_add]; exact h.cell i hi⟩⟩

theorem below_setCells {B b : Nat} {w0 : World} (hB : B ≤ b) : ∀ (vs : List Value) (o : Nat) (w : World), Below B w0 w → Below B w0 (w.setCells b o vs)
  | [], _, _, h => h
  | v :: r, o, w, h => by rw [World.setCells]; exact below_setCells hB r (o + 1) _ (h.setCell hB v)
theorem size_setCells (b : Nat) : ∀ (vs : List Value) (o : Nat) (w : World), (w.setCells b o vs).heap.size = w.heap.size
  | [], _, _ => rfl
  | v :: r, o, w => by rw [World.setCells, size_setCells b r]; simp

theorem seg_news {k : IntKind} {w : World} {a : Option Addr} {m : Nat} {ys : List Int} (h : Seg k w a m ys) (ad : Addr) (ha : a = some ad) : ∀ j u, (ys.map (Value.int k))[j]? = some u → w.cell? (ad.add j) = some u := by
  intro j u hj
  have hjl : j < ys.length := by
    rcases Nat.lt_or_ge j ys.length with h' | h'
    · exact h'
    · rw [List.getElem?_eq_none (by simpa using h')] at hj; cases hj
  rcases h.2 with h0 | ⟨b, off, hb, _, hc⟩
  · rw [h.1] at hjl; omega
  · rw [hb] at ha; cases ha
    rw [Go.WideShapes.add_plain, hc j (by rw [← h.1]; exact hjl), ← hj]
    simp [hjl]

theorem wpList_append_mine {P : Program} (w : World) {ops : Array Oper} {rest : List Oper} {o : Oper} {a : Act} {Q : Exit → Act → World → Prop}
    (hg : o.guard = none) (s x : Operand) (t : TypeId) (hop : o.op = Op.call { callee := Callee.builtin Builtin.append, args := #[s, x], argTypes := #[t, t] })
    (e : TypeId) (i : TypeInfo) (h1 : P.underlying t = some (.slice e)) (h2 : P.info? e = some i) (h3 : i.zero = some (.int .u8 0)) (h4 : i.size = 1) (h5 : i.bytes = 1)
    (B b n cap : Nat) (xs : List Int) (hs : a.eval s = .slice (some ⟨b, 0, none⟩) n cap) (hm : Mine w B b n cap xs)
    (ao : Option Addr) (m c : Nat) (ys : List Int) (hx : a.eval x = .slice ao m c) (hao : ao = none → c = 0) (hy : Seg .u8 w ao m ys) (hb : n + m ≤ 140737488355328)
    (hK : ∀ b' cap' w', Mine w' B b' (n + m) cap' (xs ++ ys) → Below B w w' → wpList P ops Q rest (a.put o.dst (.slice (some ⟨b', 0, none⟩) (n + m) cap')) w') :
    wpList P ops Q (o :: rest) a w := by
  cases ao with
  | none =>
    have hm0 : m = 0 := by
      rcases hy.2 with h0 | ⟨_, _, h, _⟩
      · exact h0
      · cases h
    subst hm0
    obtain rfl : ys = [] := List.eq_nil_of_length_eq_zero hy.1
    have hc0 := hao rfl
    subst hc0
    refine wpList_plain hg fun K hK' => ?_
    have hrun : (Builtin.append_ #[t, t] o.type #[.slice (some ⟨b, 0, none⟩) n cap, .slice none 0 0]).run P w = .ok (.slice (some ⟨b, 0, none⟩) n cap) w := by
      simp [Builtin.append_, run_underlying h1, sizeOf, typeInfo, h2, Builtin.lenOf, Builtin.firstCells, hm.le, storeCells]
    unfold Oper.wp
    simp [execOp, hop, resolve, invoke, builtin, hs, hx, hrun, Result.andThen]
    have := hK b cap w (by simpa using hm) (Below.refl _ _)
    exact hK' _ _ (by simpa using this)
  | some ad =>
    refine wpList_append_arg w hg s x t hop e i (.int .u8 0) 1 1 h1 h2 h3 h4 h5 rfl (by decide) b 0 n cap (xs.map (Value.int .u8)) hs (by simp [hm.len]) ?_ ad m c (ys.map (Value.int .u8)) hx (by simp [hy.1]) (seg_news hy ad rfl) ?_ ?_ (by unfold maxLen; omega) (by omega) ?_ ?_
    · intro j u hj
      have := seg_news hm.seg ⟨b, 0, none⟩ rfl j u hj
      rwa [Go.WideShapes.add_plain] at this
    · intro u hu; obtain ⟨z, _, rfl⟩ := List.mem_map.1 hu; rfl
    · intro hr j hj
      simp only [List.length_map, hy.1] at hj
      exact ⟨by rw [show 0 + n * 1 + j = n + j from by omega]; exact hm.there _ (by omega), by rw [show 0 + n * 1 + j = n + j from by omega]; exact hm.free _ (by omega)⟩
    · intro hr
      refine hK b cap _ ?_ (below_setCells hm.lo _ _ _ (Below.refl _ _))
      have hlen : (ys.map (Value.int .u8)).length = m := by simp [hy.1]
      have hin := World.cell?_setCells_in b (ys.map (Value.int .u8)) (0 + n * 1) w (fun j hj => by rw [show 0 + n * 1 + j = n + j from by omega]; exact hm.there _ (by omega))
      refine ⟨by simp [hm.len, hy.1], hr, hm.max, hm.lo, by rw [size_setCells]; exact hm.lt, fun i hi => ?_, fun i hi => ?_, fun i hi => ?_⟩
      · by_cases hin' : i < n
        · rw [World.cell?_setCells_out b _ _ _ _ (fun _ _ => .inl (by simp; omega)), hm.cell i hin', List.getElem?_append_left (by rw [hm.len]; exact hin')]
        · have := hin (i - n) (by omega)
          rw [show 0 + n * 1 + (i - n) = i from by omega] at this
          rw [this, List.getElem?_append_right (by rw [hm.len]; omega), hm.len]
          have hj : i - n < ys.length := by rw [hy.1]; omega
          simp [hj]
      · by_cases hin' : i < n
        · rw [World.cell?_setCells_out b _ _ _ _ (fun _ _ => .inl (by simp; omega))]; exact hm.there i hi
        · by_cases h2 : i < n + m
          · have := hin (i - n) (by omega)
            rw [show 0 + n * 1 + (i - n) = i from by omega] at this
            rw [this]; rfl
          · rw [World.cell?_setCells_out b _ _ _ _ (fun _ _ => .inr (by simp only [hlen]; omega))]; exact hm.there i hi
      · rw [World.frozen?_setCells]; exact hm.free i hi
    · intro hc v' w' hown hgrow
      rcases hown.2 with ⟨_, h0⟩ | ⟨g, cap', cur, rfl, hg', hh, hn, hcm, hsz, htake⟩
      · omega
      · refine hK g cap' w' ?_ ((Below.refl _ _).grown hgrow (Nat.le_trans hm.lo (Nat.le_of_lt hm.lt)) (fun k hk => by cases hk))
        have hlt := lt_of_block hh
        have hc2 : ∀ i, w'.cell? ⟨g, i, none⟩ = cur[i]? := fun i => cell_of_row w' g i cur e (0, 0) hh
        refine ⟨by simp [hm.len, hy.1], hn, hcm, Nat.le_trans (Nat.le_trans hm.lo (Nat.le_of_lt hm.lt)) hg', hlt, fun i hi => ?_, fun i hi => ?_, fun i hi => frozen_of_row w' g i cur e hh⟩
        · rw [hown.cellAt i (by omega), ← List.map_append]
          have : i < (xs ++ ys).length := by simp [hm.len, hy.1]; omega
          simp only [List.getElem?_map, List.getElem?_eq_getElem this]; rfl
        · rw [hc2]; simp; omega
end Go.Proofs.YtcdgfghcmeadgaaDoor
namespace Go.Proofs.YtcdgfghcmeadgaaDoor
open Go.RowKit
set_option linter.unusedVariables false

theorem mine_none (w : World) : Mine (w.alloc (.cells #[] 5)) w.heap.size w.heap.size 0 0 [] :=
  ⟨rfl, Nat.le_refl _, Nat.zero_le _, Nat.le_refl _, by simp, fun i hi => by omega, fun i hi => by omega, fun i hi => by omega⟩

set_option maxRecDepth 20000 in
theorem clone_c (a : Option Addr) (len cap : Nat) (xs : List Int) (w : World) (h : Seg .u8 w a len xs) (hl : len ≤ 140737488355328) (hnz : a = none → cap = 0) :
    Calls Tryd.prog 87 #[.slice a len cap] w fun r w' => ∃ a' cap', r = .returned (.slice a' len cap') ∧ Seg .u8 w' a' len xs ∧ len ≤ cap' ∧ cap' ≤ 9223372036854775807 ∧ (a' = none → cap' = 0) ∧
      (∀ b o s, a' = some ⟨b, o, s⟩ → w.heap.size ≤ b ∧ b < w'.heap.size) ∧ w.grownBy w' none := by
  obtain ⟨i0, hi, hz0, hz1, hz2⟩ := info_parts Tryd.infoU8
  cases a with
  | none =>
    have hm0 : len = 0 := by
      rcases h.2 with h0 | ⟨_, _, h, _⟩
      · exact h0
      · cases h
    subst hm0
    obtain rfl := hnz rfl
    have HS : Hid (Seg .u8 w none 0 xs) := h
    have hq := fun w => Lib.run_eql_slice_nil (P := Tryd.prog) w 27 5 none 0 0 0 0 Tryd.underlying27
    simp only [Option.isNone] at hq
    clear h hi hz0 hz1 hz2 i0
    go_enter Tryd.func87, Tryd.ntmps87
    go_wp2
    go_ret
    exact ⟨none, 0, rfl, HS.out, by omega, fun _ => rfl, (fun _ _ _ h => by cases h), World.grownBy.refl _ _⟩
  | some ad =>
    have HS : Hid (Seg .u8 w (some ad) len xs) := h
    have hq := fun w => Lib.run_eql_slice_nil (P := Tryd.prog) w 27 5 (some ad) len cap 0 0 Tryd.underlying27
    simp only [Option.isNone] at hq
    clear h
    go_enter Tryd.func87, Tryd.ntmps87
    go_wp2_with (at_builtin; go_must (refine wpList_append_mine _ rfl (.tmp 5) (.tmp 6) 27 rfl 5 i0 Tryd.underlying27 hi hz0 hz1 hz2 w.heap.size w.heap.size 0 0 [] rfl (mine_none w) (some ad) len cap xs rfl (fun h => by cases h) (HS.out.below ((Below.refl _ _).alloc (Nat.le_refl _) _)) (by omega) ?_); intro b' cap' w1 hm hb)
    rw [Nat.zero_add, List.nil_append] at hm
    have HM : Hid (Mine w1 w.heap.size b' len cap' xs) := hm
    have HB : Hid (Below w.heap.size _ w1) := hb
    clear hm hb
    go_ret
    have hm := HM.out
    exact ⟨_, cap', rfl, hm.seg, hm.le, by have := hm.max; unfold maxLen at this; omega, (fun h => by cases h), (fun b o s h => by cases h; exact ⟨hm.lo, hm.lt⟩), grownBy_below (((Below.refl _ _).alloc (Nat.le_refl _) _).trans HB.out) _⟩

set_option maxRecDepth 20000 in
theorem new_c (a : Option Addr) (len cap : Nat) (xs : List Int) (w : World) (h : Seg .u8 w a len xs) (hx : Bytes xs) (hl : len ≤ 140737488355328) (hnz : a = none → cap = 0) :
    Calls Tryd.prog 51 #[.slice a len cap] w fun r w' => ∃ g a' cap', r = .returned (.pointer (some ⟨g, 0, none⟩)) ∧ RS w' g a' len cap' xs 0 0 ∧ w.heap.size ≤ g ∧ (∀ b o s, a' = some ⟨b, o, s⟩ → w.heap.size ≤ b) ∧ w.grownBy w' none := by
  go_enter Tryd.func51, Tryd.ntmps51
  go_wp2_with fail
  refine (clone_c a len cap xs w h hl hnz).mono ?_
  rintro r w1 ⟨a1, cap1, rfl, hs, h1, h2, h3, h4, h5⟩
  have HS : Hid (Seg .u8 w1 a1 len xs) := hs
  have H4 : Hid (∀ b o s, a1 = some ⟨b, o, s⟩ → w.heap.size ≤ b ∧ b < w1.heap.size) := h4
  have H5 : Hid (w.grownBy w1 none) := h5
  have HX : Hid (Bytes xs) := hx
  have H3 : Hid (a1 = none → cap1 = 0) := h3
  clear hs h4 h5 h hx h3 hnz
  go_wp2_with fail
  refine (over_c a1 len cap1 w1).mono ?_
  rintro r w2 ⟨rfl, hr, hg⟩
  have HR : Hid (Rdr w2 w1.heap.size 0 (.slice a1 len cap1) 0) := hr
  have HG : Hid (w1.grownBy w2 none) := hg
  clear hr hg
  go_wp2
  go_ret
  exact ⟨_, a1, cap1, rfl, ⟨HR.out, HS.out.grew HG.out (by simp), HX.out, (fun b o s h => by have := H4.out b o s h; omega), Nat.zero_le _, h1, hl, h2, H3.out⟩, H5.out.size, fun b o s h => (H4.out b o s h).1, gb_trans H5.out HG.out⟩

set_option maxRecDepth 20000 in
theorem new_c2 (a : Option Addr) (len cap : Nat) (xs : List Int) (w : World) (h : Seg .u8 w a len xs) (hx : Bytes xs) (hl : len ≤ 140737488355328) (hnz : a = none → cap = 0) :
    Calls Tryd.prog 51 #[.slice a len cap] w fun r w' => ∃ g a' cap', r = .returned (.pointer (some ⟨g, 0, none⟩)) ∧ RS w' g a' len cap' xs 0 0 ∧ w.heap.size ≤ g ∧ (∀ b o s, a' = some ⟨b, o, s⟩ → w.heap.size ≤ b ∧ b < w'.heap.size) ∧ w.grownBy w' none := by
  go_enter Tryd.func51, Tryd.ntmps51
  go_wp2_with fail
  refine (clone_c a len cap xs w h hl hnz).mono ?_
  rintro r w1 ⟨a1, cap1, rfl, hs, h1, h2, h3, h4, h5⟩
  have HS : Hid (Seg .u8 w1 a1 len xs) := hs
  have H4 : Hid (∀ b o s, a1 = some ⟨b, o, s⟩ → w.heap.size ≤ b ∧ b < w1.heap.size) := h4
  have H5 : Hid (w.grownBy w1 none) := h5
  have HX : Hid (Bytes xs) := hx
  have H3 : Hid (a1 = none → cap1 = 0) := h3
  clear hs h4 h5 h hx h3 hnz
  go_wp2_with fail
  refine (over_c a1 len cap1 w1).mono ?_
  rintro r w2 ⟨rfl, hr, hg⟩
  have HR : Hid (Rdr w2 w1.heap.size 0 (.slice a1 len cap1) 0) := hr
  have HG : Hid (w1.grownBy w2 none) := hg
  clear hr hg
  go_wp2
  go_ret
  exact ⟨_, a1, cap1, rfl, ⟨HR.out, HS.out.grew HG.out (by simp), HX.out, (fun b o s h => by have := H4.out b o s h; omega), Nat.zero_le _, h1, hl, h2, H3.out⟩, H5.out.size, (fun b o s h => ⟨(H4.out b o s h).1, Nat.lt_of_lt_of_le (H4.out b o s h).2 HG.out.size⟩), gb_trans H5.out HG.out⟩
end Go.Proofs.YtcdgfghcmeadgaaDoor
namespace Go.Proofs.YtcdgfghcmeadgaaDoor
open Go.RowKit
set_option linter.unusedVariables false

/-- Bytes of one's own: nil, or a block from B on. -/
def Own (B : Nat) (w : World) (v : Value) (n : Nat) (xs : List Int) : Prop := w.ownsRow B 5 1 v n (xs.map (Value.int .u8))
theorem own_nil (B : Nat) (w : World) : Own B w (.slice none 0 0) 0 [] := ⟨rfl, .inl ⟨rfl, rfl⟩⟩
theorem Own.seg {B : Nat} {w : World} {v : Value} {n : Nat} {xs : List Int} (h : Own B w v n xs) : ∃ a cap, v = .slice a n cap ∧ Seg .u8 w a n xs ∧ (a = none → cap = 0) ∧ n ≤ cap := by
  have hlen : xs.length = n := by have := h.1; simpa using this
  rcases h.2 with ⟨rfl, rfl⟩ | ⟨g, cap, cur, rfl, hB, hg, hn, hm, hsz, htake⟩
  · exact ⟨none, 0, rfl, ⟨hlen, .inl rfl⟩, fun _ => rfl, Nat.le_refl _⟩
  · refine ⟨_, cap, rfl, ⟨hlen, ?_⟩, (fun h => by cases h), hn⟩
    refine .inr ⟨g, 0, rfl, lt_of_block hg, fun i hi => ?_⟩
    rw [Nat.zero_add, h.cellAt i (by omega)]
    simp only [List.getElem?_map, List.getElem?_eq_getElem (show i < xs.length by omega)]; rfl
theorem Own.form {B : Nat} {w : World} {v : Value} {n : Nat} {xs : List Int} (h : Own B w v n xs) (hn : 0 < n) : ∃ g cap, v = .slice (some ⟨g, 0, none⟩) n cap ∧ B ≤ g ∧ n ≤ cap := by
  rcases h.2 with ⟨rfl, rfl⟩ | ⟨g, cap, cur, rfl, hB, _, hc, _⟩
  · omega
  · exact ⟨g, cap, rfl, hB, hc⟩
theorem Own.cell {B : Nat} {w : World} {g n cap : Nat} {xs : List Int} (h : Own B w (.slice (some ⟨g, 0, none⟩) n cap) n xs) (i : Nat) (hi : i < n) : w.cell? ⟨g, i, none⟩ = some (.int .u8 (xs[i]?.getD 0)) ∧ w.frozen? ⟨g, i, none⟩ = false := by
  have hlen : xs.length = n := by have := h.1; simpa using this
  refine ⟨?_, ?_⟩
  · rw [h.cellAt i (by omega)]
    simp only [List.getElem?_map, List.getElem?_eq_getElem (show i < xs.length by omega)]; rfl
  · rcases h.2 with ⟨h', _⟩ | ⟨g', cap', cur, h', hB, hg, _⟩
    · simp at h'
    · simp only [Value.slice.injEq, Option.some.injEq, Addr.mk.injEq, and_true, true_and] at h'
      obtain ⟨rfl, rfl⟩ := h'
      exact frozen_of_row _ _ _ _ _ hg
theorem Own.set {B : Nat} {w : World} {g n cap : Nat} {xs : List Int} (h : Own B w (.slice (some ⟨g, 0, none⟩) n cap) n xs) (i : Nat) (hi : i < n) (y : Int) : Own B (w.setCell ⟨g, i, none⟩ (.int .u8 y)) (.slice (some ⟨g, 0, none⟩) n cap) n (xs.set i y) := by
  refine ⟨by have := h.1; simpa using this, .inr ?_⟩
  rcases h.2 with ⟨h', _⟩ | ⟨g', cap', cur, h', hB, hg, hn, hm, hsz, htake⟩
  · simp at h'
  · simp only [Value.slice.injEq, Option.some.injEq, Addr.mk.injEq, and_true, true_and] at h'
    obtain ⟨rfl, rfl⟩ := h'
    refine ⟨g, cap, cur.setIfInBounds i (.int .u8 y), rfl, hB, ?_, hn, hm, by simpa using hsz, ?_⟩
    · rw [heap_setCell_same w g i _ 5 _ hg]
    · rw [Array.toList_setIfInBounds, List.take_set, htake, List.map_set]
theorem Own.below {B : Nat} {w w' : World} {v : Value} {n : Nat} {xs : List Int} (h : Own B w v n xs) (hb : Below w.heap.size w w') : Own B w' v n xs := by
  refine ⟨h.1, ?_⟩
  rcases h.2 with h0 | ⟨g, cap, cur, rfl, hB, hg, r⟩
  · exact .inl h0
  · exact .inr ⟨g, cap, cur, rfl, hB, (hb.block g (lt_of_block hg)).trans hg, r⟩
theorem Own.base {B C : Nat} {w : World} {v : Value} {n : Nat} {xs : List Int} (h : Own B w v n xs) (hc : C ≤ B) : Own C w v n xs := by
  refine ⟨h.1, ?_⟩
  rcases h.2 with h0 | ⟨g, cap, cur, rfl, hB, r⟩
  · exact .inl h0
  · exact .inr ⟨g, cap, cur, rfl, Nat.le_trans hc hB, r⟩
theorem wpList_append_grow (w : World) {ops : Array Oper} {rest : List Oper} {o : Oper} {a : Act} {Q : Exit → Act → World → Prop}
    (hg : o.guard = none) (s x : Operand) (hop : o.op = Op.call { callee := Callee.builtin Builtin.append, args := #[s, x], argTypes := #[27, 27] })
    (B n : Nat) (v : Value) (xs : List Int) (hs : a.eval s = v) (hown : Own B w v n xs)
    (ao : Option Addr) (m c : Nat) (ys : List Int) (hx : a.eval x = .slice ao m c) (hao : ao = none → c = 0) (hy : Seg .u8 w ao m ys) (hb : n + m ≤ 140737488355328) (hbase : B ≤ w.heap.size)
    (hK : ∀ v' w', Own B w' v' (n + m) (xs ++ ys) → Below B w w' → wpList Tryd.prog ops Q rest (a.put o.dst v') w') :
    wpList Tryd.prog ops Q (o :: rest) a w := by
  obtain ⟨i, hi, hz, h4, h5⟩ := info_parts Tryd.infoU8
  cases ao with
  | none =>
    have hm0 : m = 0 := by
      rcases hy.2 with h0 | ⟨_, _, h, _⟩
      · exact h0
      · cases h
    subst hm0
    obtain rfl : ys = [] := List.eq_nil_of_length_eq_zero hy.1
    have hc0 := hao rfl
    subst hc0
    refine wpList_append_own_none hg s x 27 hop B 5 i 1 Tryd.underlying27 hi v n (xs.map (Value.int .u8)) hs hown hx ?_
    exact hK v w (by simpa using hown) (Below.refl _ _)
  | some ad =>
    refine wpList_append_own w hg s x 27 hop B 5 i (.int .u8 0) 1 1 Tryd.underlying27 hi hz h4 h5 rfl (by decide) v n (xs.map (Value.int .u8)) hs hown ad m c (ys.map (Value.int .u8)) hx (by simp [hy.1]) (seg_news' hy ad rfl) ?_ (by unfold maxLen; omega) (by omega) hbase ?_
    · intro u hu; obtain ⟨z, _, rfl⟩ := List.mem_map.1 hu; rfl
    · intro v' w' hown' hgrow _
      refine hK v' w' (by unfold Own; rw [List.map_append]; exact hown') ((Below.refl _ _).grown hgrow hbase ?_)
      intro k hk
      rcases hown.2 with ⟨rfl, _⟩ | ⟨g, cap, cur, rfl, hB, _⟩
      · cases hk
      · cases hk; exact hB

theorem wpList_append_apart (w : World) {ops : Array Oper} {rest : List Oper} {o : Oper} {a : Act} {Q : Exit → Act → World → Prop}
    (hg : o.guard = none) (s x : Operand) (hop : o.op = Op.call { callee := Callee.builtin Builtin.append, args := #[s, x], argTypes := #[27, 27] })
    (B n : Nat) (v : Value) (xs : List Int) (hs : a.eval s = v) (hown : Own B w v n xs)
    (ao : Option Addr) (m c : Nat) (ys : List Int) (hx : a.eval x = .slice ao m c) (hao : ao = none → c = 0) (hy : Seg .u8 w ao m ys) (hb : n + m ≤ 140737488355328) (hbase : B ≤ w.heap.size)
    (hK : ∀ v' w', Own B w' v' (n + m) (xs ++ ys) → w.grownBy w' v.ownBlock → (v'.ownBlock = v.ownBlock ∨ v'.ownBlock = some w.heap.size) → wpList Tryd.prog ops Q rest (a.put o.dst v') w') :
    wpList Tryd.prog ops Q (o :: rest) a w := by
  obtain ⟨i, hi, hz, h4, h5⟩ := info_parts Tryd.infoU8
  cases ao with
  | none =>
    have hm0 : m = 0 := by
      rcases hy.2 with h0 | ⟨_, _, h, _⟩
      · exact h0
      · cases h
    subst hm0
    obtain rfl : ys = [] := List.eq_nil_of_length_eq_zero hy.1
    have hc0 := hao rfl
    subst hc0
    refine wpList_append_own_none hg s x 27 hop B 5 i 1 Tryd.underlying27 hi v n (xs.map (Value.int .u8)) hs hown hx ?_
    exact hK v w (by simpa using hown) ⟨rfl, rfl, rfl, Nat.le_refl _, fun _ _ _ => rfl⟩ (.inl rfl)
  | some ad =>
    refine wpList_append_own_at w hg s x 27 hop B 5 i (.int .u8 0) 1 1 Tryd.underlying27 hi hz h4 h5 rfl (by decide) v n (xs.map (Value.int .u8)) hs hown ad m c (ys.map (Value.int .u8)) hx (by simp [hy.1]) (seg_news' hy ad rfl) ?_ (by unfold maxLen; omega) (by omega) hbase ?_
    · intro u hu; obtain ⟨z, _, rfl⟩ := List.mem_map.1 hu; rfl
    · intro v' w' hown' hgrow _ hat
      exact hK v' w' (by unfold Own; rw [List.map_append]; exact hown') hgrow hat
/-- What lies in another block stays. -/
theorem Own.grown {B : Nat} {w w' : World} {u : Value} {n : Nat} {ys : List Int} {row : Option Nat} (h : Own B w u n ys) (hg : w.grownBy w' row) (hne : ∀ g, u.ownBlock = some g → row ≠ some g) : Own B w' u n ys := by
  refine ⟨h.1, ?_⟩
  rcases h.2 with h0 | ⟨g, cap, cur, rfl, hB, hgb, r⟩
  · exact .inl h0
  · exact .inr ⟨g, cap, cur, rfl, hB, (hg.block g (lt_of_block hgb) (fun e => hne g rfl e.symm)).trans hgb, r⟩
theorem Own.lo {B : Nat} {w : World} {u : Value} {n : Nat} {ys : List Int} (h : Own B w u n ys) : ∀ g, u.ownBlock = some g → B ≤ g ∧ g < w.heap.size := by
  intro g hg
  rcases h.2 with ⟨rfl, _⟩ | ⟨g', cap, cur, rfl, hB, hgb, _⟩
  · cases hg
  · cases hg; exact ⟨hB, lt_of_block hgb⟩
end Go.Proofs.YtcdgfghcmeadgaaDoor
namespace Go.Proofs.YtcdgfghcmeadgaaDoor
open Go.RowKit
set_option linter.unusedVariables false

/-- Which blocks may have changed. -/
structure Gr (G : Nat → Prop) (w w' : World) : Prop where
  os : w'.os = w.os
  tape : w'.tape = w.tape
  output : w'.output = w.output
  size : w.heap.size ≤ w'.heap.size
  block : ∀ k, k < w.heap.size → ¬ G k → w'.heap[k]? = w.heap[k]?
theorem Gr.refl (G : Nat → Prop) (w : World) : Gr G w w := ⟨rfl, rfl, rfl, Nat.le_refl _, fun _ _ _ => rfl⟩
theorem Gr.trans {G a b c} (h : Gr G a b) (k : Gr G b c) : Gr G a c :=
  ⟨k.os.trans h.os, k.tape.trans h.tape, k.output.trans h.output, Nat.le_trans h.size k.size, fun i hi hn => (k.block i (Nat.lt_of_lt_of_le hi h.size) hn).trans (h.block i hi hn)⟩
theorem Gr.of {G : Nat → Prop} {a b : World} {row : Option Nat} (h : a.grownBy b row) (hr : ∀ k, row = some k → G k ∨ a.heap.size ≤ k) : Gr G a b :=
  ⟨h.os, h.tape, h.output, h.size, fun i hi hn => h.block i hi (fun e => by rcases hr i e.symm with h | h; exact hn h; omega)⟩
theorem Gr.wide {G G' : Nat → Prop} {a b : World} (h : Gr G a b) (hw : ∀ k, k < a.heap.size → G k → G' k) : Gr G' a b :=
  ⟨h.os, h.tape, h.output, h.size, fun i hi hn => h.block i hi (fun e => hn (hw i hi e))⟩
theorem Gr.drewN {G : Nat → Prop} {a b : World} (h : Gr G a b) (n : Nat) : Gr G a (b.drewN n) := h.trans (Gr.of (gb_drewN (World.grownBy.refl b none) n) (by simp))
theorem Gr.alloc {G : Nat → Prop} {a b : World} (h : Gr G a b) (o : Obj) : Gr G a (b.alloc o) := h.trans (Gr.of (World.grownBy_alloc b o none) (by simp))
theorem Gr.below {G : Nat → Prop} {B : Nat} {w0 a b : World} (h0 : Below B w0 a) (h : Gr G a b) (hG : ∀ k, G k → B ≤ k) (hB : B ≤ a.heap.size) : Below B w0 b :=
  h0.trans ⟨h.os, h.tape, h.output, h.size, fun k hk => h.block k (by omega) (fun g => by have := hG k g; omega)⟩
theorem Seg.gr {k : IntKind} {G : Nat → Prop} {w w' : World} {a : Option Addr} {len : Nat} {xs : List Int} (h : Seg k w a len xs) (hg : Gr G w w') (ho : ∀ k, G k → Off a k) : Seg k w' a len xs := by
  refine ⟨h.1, ?_⟩
  rcases h.2 with h0 | ⟨b, off, ha, hw, hc⟩
  · exact .inl h0
  · exact .inr ⟨b, off, ha, Nat.lt_of_lt_of_le hw hg.size, fun i hi => (World.cell?_of_block (w := w) (w' := w') (a := ⟨b, off + i, none⟩) (hg.block b hw (fun e => ho b e _ _ _ ha rfl))).trans (hc i hi)⟩
end Go.Proofs.YtcdgfghcmeadgaaDoor
namespace Go.Proofs.YtcdgfghcmeadgaaDoor
open Go.RowKit
set_option linter.unusedVariables false

set_option maxRecDepth 20000 in
theorem grow_c (n : Nat) (w : World) (hl : n ≤ 140737488355328) :
    Calls Tryd.prog 121 #[.slice none 0 0, .int .i64 (n : Int)] w fun r w' => ∃ v, r = .returned v ∧ Own w.heap.size w' v 0 [] ∧ Below w.heap.size w w' := by
  obtain ⟨i0, hi, hz0, hz1, hz2⟩ := info_parts Tryd.infoU8
  by_cases h0 : n = 0
  · subst h0
    clear hi hz0 hz1 hz2 i0
    go_enter Tryd.func121, Tryd.ntmps121
    go_wp2
    go_ret
    exact ⟨_, rfl, own_nil _ _, Below.refl _ _⟩
  · have hn : 1 ≤ n := by omega
    have happ := Lib.run_append_nil_zeros (P := Tryd.prog) w 27 3 27 5 i0 (.int .u8 0) .i64 .i64 Tryd.underlying27 Tryd.underlying3 hi hz0 n (by omega) (by omega) (by omega) (by rw [hz2]; omega)
    generalize hcap : grownCap w n 0 5 = cap2 at happ
    have hcapge : n ≤ cap2 := by rw [← hcap]; exact grownCap_ge w _ 0 5
    have hcaple : cap2 ≤ maxLen := by rw [← hcap]; exact grownCap_le_maxLen w _ 0 5 (by unfold maxLen; omega)
    generalize hZ : (Builtin.zeroCells (Value.int .u8 0).cells n ++ Builtin.zeroCells (Value.int .u8 0).cells (cap2 - n)) = Z at happ
    have hZs : Z.size = cap2 := by rw [← hZ]; simp [size_zeroCells, Value.cells]; omega
    have HZ : Hid (Z.size = cap2 ∧ n ≤ cap2 ∧ cap2 ≤ maxLen) := ⟨hZs, hcapge, hcaple⟩
    have hnp : (0 : Int) < (n : Int) := by omega
    clear hcap hZ hZs hcaple hi hz0 hz1 hz2
    go_enter Tryd.func121, Tryd.ntmps121
    go_wp2_with (at_builtin; refine Lib.wpList_append_run _ rfl _ _ _ _ rfl _ _ rfl rfl _ _ happ ?_)
    go_ret
    obtain ⟨e1, e2, e3⟩ := HZ
    refine ⟨_, rfl, ⟨rfl, .inr ⟨w.heap.size, cap2, Z, rfl, Nat.le_refl _, ?_, Nat.zero_le _, e3, by simpa using e1, by simp⟩⟩, ?_⟩
    · show (w.heap.push _)[w.heap.size]? = _
      simp
    · exact ((Below.refl _ _).alloc (Nat.le_refl _) _).drew

set_option maxRecDepth 20000 in
set_option maxHeartbeats 2000000 in
theorem cat_c (c n1 c1 n2 c2 : Nat) (a1 a2 : Option Addr) (xs ys : List Int) (w : World) (hc0 : w.cell? ⟨c, 0, none⟩ = some (.slice a1 n1 c1)) (hc1 : w.cell? ⟨c, 1, none⟩ = some (.slice a2 n2 c2)) (hcw : c < w.heap.size)
    (hn1 : a1 = none → c1 = 0) (hn2 : a2 = none → c2 = 0) (hs1 : Seg .u8 w a1 n1 xs) (hs2 : Seg .u8 w a2 n2 ys) (hl : n1 + n2 ≤ 140737488355328) :
    Calls Tryd.prog 113 #[.slice (some ⟨c, 0, none⟩) 2 2] w fun r w' => ∃ v, r = .returned v ∧ Own w.heap.size w' v (n1 + n2) (xs ++ ys) ∧ Below w.heap.size w w' := by
  have HG : Calls Tryd.prog 121 #[.slice none 0 0, .int .i64 ((n1 : Int) + (n2 : Int))] w fun r w' => ∃ v, r = .returned v ∧ Own w.heap.size w' v 0 [] ∧ Below w.heap.size w w' := by
    have := grow_c (n1 + n2) w hl
    rwa [Int.natCast_add] at this
  replace HG : Hid _ := HG
  have HS1 : Hid (Seg .u8 w a1 n1 xs) := hs1
  have HS2 : Hid (Seg .u8 w a2 n2 ys) := hs2
  have HN1 : Hid (a1 = none → c1 = 0) := hn1
  have HN2 : Hid (a2 = none → c2 = 0) := hn2
  clear hn1 hn2 hs1 hs2
  go_enter Tryd.func113, Tryd.ntmps113
  go_wp2
  refine wp_loop_rounds 3 ?_
  rw [rounds_succ]
  go_wp2
  rw [rounds_succ]
  go_wp2
  rw [rounds_succ]
  go_wp2_with fail
  refine (Calls.mono HG.out ?_)
  rintro _ w1 ⟨v1, rfl, ho1, hb1⟩
  have hd0 : w1.cell? ⟨c, 0, none⟩ = some (.slice a1 n1 c1) := (hb1.cell (p := ⟨c, 0, none⟩) hcw).trans hc0
  have hd1 : w1.cell? ⟨c, 1, none⟩ = some (.slice a2 n2 c2) := (hb1.cell (p := ⟨c, 1, none⟩) hcw).trans hc1
  have hs1 : Hid (Seg .u8 w1 a1 n1 xs) := HS1.out.below hb1
  replace ho1 : Hid _ := ho1
  replace hb1 : Hid _ := hb1
  go_wp2
  refine wp_loop_rounds 3 ?_
  rw [rounds_succ]
  go_wp2_with (at_builtin; go_must (refine wpList_append_grow _ rfl _ _ rfl w.heap.size 0 _ [] rfl ho1.out a1 n1 c1 xs rfl HN1.out hs1.out (by omega) hb1.out.size ?_); intro v2 w2 ho2 hb2; rw [Nat.zero_add, List.nil_append] at ho2; replace hb2 := hb1.out.trans hb2; replace ho2 : Hid _ := ho2; replace hb2 : Hid _ := hb2)
  have he1 : w2.cell? ⟨c, 1, none⟩ = some (.slice a2 n2 c2) := (hb2.out.cell (p := ⟨c, 1, none⟩) hcw).trans hc1
  have hs2 : Hid (Seg .u8 w2 a2 n2 ys) := HS2.out.below hb2.out
  clear hd0 hd1 hc0 hc1 hs1 ho1
  rw [rounds_succ]
  go_wp2_with (at_builtin; go_must (refine wpList_append_grow _ rfl _ _ rfl w.heap.size n1 _ xs rfl ho2.out a2 n2 c2 ys rfl HN2.out hs2.out hl hb2.out.size ?_); intro v3 w3 ho3 hb3; replace hb3 := hb2.out.trans hb3; replace ho3 : Hid _ := ho3; replace hb3 : Hid _ := hb3)
  rw [rounds_succ]
  go_wp2
  go_ret
  exact ⟨_, rfl, ho3.out, hb3.out⟩
end Go.Proofs.YtcdgfghcmeadgaaDoor
namespace Go.Proofs.YtcdgfghcmeadgaaDoor
open Go.RowKit
set_option linter.unusedVariables false

/-- A block that holds one value of so many cells. -/
def Bk (T : TypeId) (w : World) (b : Nat) (cs : Array Value) : Prop := w.heap[b]? = some (.cells cs T (0, 0))
theorem Bk.grew {T w w' b cs row} (h : Bk T w b cs) (hg : w.grownBy w' row) (hn : row ≠ some b) : Bk T w' b cs := (hg.block b (lt_of_block h) (fun e => hn e.symm)).trans h
theorem bk_load {T : TypeId} {d : TypeDesc} (hu : Tryd.prog.underlying T = some d) (hd : d.isRow = true) {n : Nat} (hi : (Tryd.prog.info? T).map (·.size) = some n) {w : World} {b : Nat} {cs : Array Value} (h : Bk T w b cs) (hl : cs.size = n) :
    (loadVar T ⟨b, 0, none⟩).run Tryd.prog w = .ok (.agg cs) w := by
  have := run_loadVar_mid (P := Tryd.prog) w b 0 T cs.toList d (fun j v hv => by rw [Nat.zero_add, cell_of_row w b j _ _ _ h]; simpa using hv) hu hd (by rw [hi, ← hl]; simp)
  simpa using this
theorem wpList_load_bk {ops : Array Oper} {rest : List Oper} {op : Oper} {a : Act} {w : World} {Q : Exit → Act → World → Prop} (T : TypeId) (hgd : op.guard = none) (x : Operand) (ho : op.op = .load T x)
    {d : TypeDesc} (hu : Tryd.prog.underlying T = some d) (hd : d.isRow = true) {n : Nat} (hi : (Tryd.prog.info? T).map (·.size) = some n) (b : Nat) (cs : Array Value) (hx : a.eval x = .pointer (some ⟨b, 0, none⟩)) (h : Bk T w b cs) (hl : cs.size = n)
    (K : wpList Tryd.prog ops Q rest (a.put op.dst (.agg cs)) w) : wpList Tryd.prog ops Q (op :: rest) a w :=
  wpList_load_mid hgd T x ho b 0 hx cs.toList d (fun j v hv => by rw [Nat.zero_add, cell_of_row w b j _ _ _ h]; simpa using hv) hu hd (by rw [hi, ← hl]; simp) (by simpa using K)
theorem wpList_load_bkG {ops : Array Oper} {rest : List Oper} {op : Oper} {a : Act} {w : World} {Q : Exit → Act → World → Prop} (T : TypeId) (hgd : Region.wanted op (yielded ops a.tmps) = true) (x : Operand) (ho : op.op = .load T x)
    {d : TypeDesc} (hu : Tryd.prog.underlying T = some d) (hd : d.isRow = true) {n : Nat} (hi : (Tryd.prog.info? T).map (·.size) = some n) (b : Nat) (cs : Array Value) (hx : a.eval x = .pointer (some ⟨b, 0, none⟩)) (h : Bk T w b cs) (hl : cs.size = n)
    (K : wpList Tryd.prog ops Q rest (a.put op.dst (.agg cs)) w) : wpList Tryd.prog ops Q (op :: rest) a w :=
  BigFrame.wpList_want hgd fun _ hK => wp_load_mid T x ho b 0 hx cs.toList d (fun j v hv => by rw [Nat.zero_add, cell_of_row w b j _ _ _ h]; simpa using hv) hu hd (by rw [hi, ← hl]; simp) (hK _ _ (by simpa using K))
theorem wpList_store_bk {ops : Array Oper} {rest : List Oper} {op : Oper} {a : Act} {w : World} {Q : Exit → Act → World → Prop} (T : TypeId) (hgd : op.guard = none) (x y : Operand) (ho : op.op = .store T x y)
    {n : Nat} (hi : (Tryd.prog.info? T).map (·.size) = some n) (b : Nat) (cs es : Array Value) (hx : a.eval x = .pointer (some ⟨b, 0, none⟩)) (hy : a.eval y = .agg es) (h : Bk T w b cs) (hl : cs.size = n) (hl2 : es.size = n) (h1 : es.all (·.oneCell') = true)
    (K : ∀ w', Bk T w' b es → w.grownBy w' (some b) → wpList Tryd.prog ops Q rest (a.put op.dst undef) w') : wpList Tryd.prog ops Q (op :: rest) a w := by
  have hst := run_storeVar_row (P := Tryd.prog) w b T T cs es h (by rw [hi, hl2]) (by rw [hl, hl2]) h1
  refine wpList_plain hgd fun K' hK => ?_
  unfold Oper.wp execOp
  simp only [ho, hx, hy, Instr.storeAt, Instr.sureAddr, Sem.run_bind, Sem.run_pure, Result.andThen_ok, hst]
  refine hK _ _ (K _ ?_ ?_)
  · unfold Bk World.setRow
    simp only [Array.getElem?_modify]
    rw [if_pos trivial, h]; rfl
  · exact ⟨rfl, rfl, rfl, by simp [World.setRow], fun k _ hk => setRow_other w b k _ (fun e => hk (by rw [e]))⟩
theorem blk_new (w : World) (T : TypeId) (cs : Array Value) : Bk T (w.alloc (.cells cs T)) w.heap.size cs ∧ w.grownBy (w.alloc (.cells cs T)) none := ⟨heap_new w _, World.grownBy_alloc _ _ _⟩
theorem Bk.gr {G : Nat → Prop} {T w w' b cs} (h : Bk T w b cs) (hg : Gr G w w') (h1 : ¬ G b) : Bk T w' b cs := (hg.block b (lt_of_block h) h1).trans h
theorem Bk.cell {T w b cs} (h : Bk T w b cs) (i : Nat) : w.cell? ⟨b, i, none⟩ = cs[i]? := cell_of_row w b i cs T (0, 0) h
end Go.Proofs.YtcdgfghcmeadgaaDoor
namespace Go.Proofs.YtcdgfghcmeadgaaDoor
open Go.RowKit
set_option linter.unusedVariables false

/-- All bytes of a chain: those ahead first. -/
def chB : List (List Int) → List Int
  | [] => []
  | xs :: L => chB L ++ xs
/-- A chain of blocks that lie where O says. -/
def Chn (O : Nat → Prop) (w : World) : Option Addr → List (List Int) → Prop
  | k, [] => k = none
  | k, xs :: L => ∃ b p a c, k = some ⟨b, 0, none⟩ ∧ O b ∧ Bk 159 w b #[.pointer p, .slice a xs.length c, .int .i64 ((chB (xs :: L)).length : Int)] ∧ xs ≠ [] ∧ Seg .u8 w a xs.length xs ∧ (a = none → c = 0) ∧ (∀ g o s, a = some ⟨g, o, s⟩ → O g) ∧ Chn O w p L
theorem Chn.keep {O : Nat → Prop} {w w' : World} {row : Option Nat} (hg : w.grownBy w' row) (hO : ∀ g, row = some g → ¬ O g) : ∀ {k : Option Addr} (L : List (List Int)), Chn O w k L → Chn O w' k L
  | k, [], h => h
  | k, xs :: L, ⟨b, p, a, c, h1, h2, h3, h4, h5, h6, h7, h8⟩ => by
    refine ⟨b, p, a, c, h1, h2, h3.grew hg (fun e => hO b e h2), h4, ?_, h6, h7, h8.keep hg hO L⟩
    refine ⟨h5.1, ?_⟩
    rcases h5.2 with z | ⟨g, off, e, hb, hc⟩
    · exact .inl z
    · have hn : row ≠ some g := fun e' => hO g e' (h7 _ _ _ e)
      have hbk : w'.heap[g]? = w.heap[g]? := hg.block g hb (fun e' => hn e'.symm)
      refine .inr ⟨g, off, e, Nat.lt_of_lt_of_le hb hg.size, fun i hi => ?_⟩
      rw [← hc i hi]
      simp only [World.cell?, hbk]
theorem Chn.weak {O O' : Nat → Prop} {w : World} (hO : ∀ b, O b → O' b) : ∀ {k : Option Addr} (L : List (List Int)), Chn O w k L → Chn O' w k L
  | k, [], h => h
  | k, xs :: L, ⟨b, p, a, c, h1, h2, h3, h4, h5, h6, h7, h8⟩ => ⟨b, p, a, c, h1, hO _ h2, h3, h4, h5, h6, fun g o s e => hO _ (h7 g o s e), h8.weak hO L⟩
theorem isize_b (O : Nat → Prop) (k : Option Addr) (L : List (List Int)) (w : World) (h : Chn O w k L) : Calls Tryd.prog 91 #[.pointer k] w fun r w' => r = .returned (.int .i64 ((chB L).length : Int)) ∧ w' = w := by
  cases L with
  | nil =>
    obtain rfl : k = none := h
    go_enter Tryd.func91, Tryd.ntmps91
    go_wp2
    go_ret
    exact ⟨rfl, rfl⟩
  | cons xs L =>
    obtain ⟨b, p, a, c, rfl, h2, h3, h4, h5, h6, h7, h8⟩ := h
    have hc : w.cell? ⟨b, 2, none⟩ = some (.int .i64 ((chB (xs :: L)).length : Int)) := h3.cell 2
    generalize (chB (xs :: L)).length = n at hc ⊢
    clear h2 h3 h4 h5 h6 h7 h8
    go_enter Tryd.func91, Tryd.ntmps91
    go_wp2
    go_ret
    exact ⟨rfl, rfl⟩
set_option maxRecDepth 20000 in
theorem slclone_c (a : Option Addr) (len cap : Nat) (xs : List Int) (w : World) (h : Seg .u8 w a len xs) (hl : len ≤ 140737488355328) (hnz : a = none → cap = 0) :
    Calls Tryd.prog 112 #[.slice a len cap] w fun r w' => ∃ a' cap', r = .returned (.slice a' len cap') ∧ Seg .u8 w' a' len xs ∧ len ≤ cap' ∧ cap' ≤ 9223372036854775807 ∧ (a' = none → cap' = 0) ∧
      (∀ b o s, a' = some ⟨b, o, s⟩ → w.heap.size ≤ b ∧ b < w'.heap.size) ∧ w.grownBy w' none := by
  obtain ⟨i0, hi, hz0, hz1, hz2⟩ := info_parts Tryd.infoU8
  cases a with
  | none =>
    have hm0 : len = 0 := by
      rcases h.2 with h0 | ⟨_, _, h, _⟩
      · exact h0
      · cases h
    subst hm0
    obtain rfl := hnz rfl
    have HS : Hid (Seg .u8 w none 0 xs) := h
    have hq := fun w => Lib.run_eql_slice_nil (P := Tryd.prog) w 27 5 none 0 0 0 0 Tryd.underlying27
    simp only [Option.isNone] at hq
    clear h hi hz0 hz1 hz2 i0
    go_enter Tryd.func112, Tryd.ntmps112
    go_wp2
    go_ret
    exact ⟨none, 0, rfl, HS.out, by omega, fun _ => rfl, (fun _ _ _ h => by cases h), World.grownBy.refl _ _⟩
  | some ad =>
    have HS : Hid (Seg .u8 w (some ad) len xs) := h
    have hq := fun w => Lib.run_eql_slice_nil (P := Tryd.prog) w 27 5 (some ad) len cap 0 0 Tryd.underlying27
    simp only [Option.isNone] at hq
    clear h
    go_enter Tryd.func112, Tryd.ntmps112
    go_wp2_with (at_builtin; go_must (refine wpList_append_mine _ rfl (.tmp 5) (.tmp 6) 27 rfl 5 i0 Tryd.underlying27 hi hz0 hz1 hz2 w.heap.size w.heap.size 0 0 [] rfl (mine_none w) (some ad) len cap xs rfl (fun h => by cases h) (HS.out.below ((Below.refl _ _).alloc (Nat.le_refl _) _)) (by omega) ?_); intro b' cap' w1 hm hb)
    rw [Nat.zero_add, List.nil_append] at hm
    have HM : Hid (Mine w1 w.heap.size b' len cap' xs) := hm
    have HB : Hid (Below w.heap.size _ w1) := hb
    clear hm hb
    go_ret
    have hm := HM.out
    exact ⟨_, cap', rfl, hm.seg, hm.le, by have := hm.max; unfold maxLen at this; omega, (fun h => by cases h), (fun b o s h => by cases h; exact ⟨hm.lo, hm.lt⟩), grownBy_below (((Below.refl _ _).alloc (Nat.le_refl _) _).trans HB.out) _⟩

def tAt (w : World) (v : Value) : Nat := match v with
  | .pointer (some a) => (match w.cell? ⟨a.block, 2, none⟩ with
    | some (.int _ h) => h.toNat
    | _ => 0)
  | _ => 0
theorem tAt_chn {O : Nat → Prop} {w : World} {k : Option Addr} {L : List (List Int)} (h : Chn O w k L) : tAt w (.pointer k) = (chB L).length := by
  cases L with
  | nil => obtain rfl : k = none := h; rfl
  | cons xs L =>
    obtain ⟨b, p, a, c, rfl, h2, h3, h4, h5, h6, h7, h8⟩ := h
    have hc : w.cell? ⟨b, 2, none⟩ = some (.int .i64 ((chB (xs :: L)).length : Int)) := h3.cell 2
    simp [tAt, hc]
end Go.Proofs.YtcdgfghcmeadgaaDoor
namespace Go.Proofs.YtcdgfghcmeadgaaDoor
open Go.RowKit
set_option linter.unusedVariables false

theorem below_gbO {a b : World} (h : Below a.heap.size a b) : a.grownBy b none := ⟨h.os, h.tape, h.output, h.size, fun i hi _ => h.block i hi⟩
/-- How far the blocks are joined. -/
def WI (O : Nat → Prop) (w wr : World) (k : Option Addr) (a : Option Addr) (n c : Nat) (ys : List Int) (L : List (List Int)) (all : List Int) : Prop :=
  Chn O wr k L ∧ Seg .u8 wr a n ys ∧ ys ≠ [] ∧ (a = none → c = 0) ∧ (∀ g o s, a = some ⟨g, o, s⟩ → w.heap.size ≤ g) ∧ chB L ++ ys = all ∧ w.grownBy wr none
theorem own_at {B : Nat} {w : World} {v : Value} {n : Nat} {xs : List Int} (h : Own B w v n xs) : ∃ a cap, v = .slice a n cap ∧ Seg .u8 w a n xs ∧ (a = none → cap = 0) ∧ (∀ g o s, a = some ⟨g, o, s⟩ → B ≤ g) := by
  obtain ⟨a, cap, e, h1, h2, h3⟩ := h.seg
  refine ⟨a, cap, e, h1, h2, ?_⟩
  intro g o s ha
  subst ha
  rcases h.2 with ⟨z, _⟩ | ⟨g', cap', cur, q, hb, _⟩
  · rw [e] at z; cases z
  · rw [e] at q; cases q; exact hb
theorem wi_box {O : Nat → Prop} {w wr : World} {k a : Option Addr} {n c T : Nat} {ys all : List Int} {L : List (List Int)} (h : WI O w wr k a n c ys L all) (hT : all.length = T) :
    Chn (fun b => O b ∨ w.heap.size ≤ b) (wr.alloc (.cells #[.pointer k, .slice a n c, .int .i64 (T : Int)] 159)) (some ⟨wr.heap.size, 0, none⟩) (ys :: L) ∧ chB (ys :: L) = all ∧ w.grownBy (wr.alloc (.cells #[.pointer k, .slice a n c, .int .i64 (T : Int)] 159)) none := by
  obtain ⟨h1, h2, h3, h4, h5, h6, h7⟩ := h
  have hg := World.grownBy_alloc wr (.cells #[.pointer k, .slice a n c, .int .i64 (T : Int)] 159) none
  have e1 : (chB (ys :: L)).length = T := by show (chB L ++ ys).length = T; rw [h6, hT]
  have e2 : ys.length = n := h2.1
  refine ⟨⟨wr.heap.size, k, a, c, rfl, .inr h7.size, ?_, h3, ?_, h4, fun g o s e => .inr (h5 g o s e), (h1.weak (fun b hb => .inl hb)).keep hg (by simp) L⟩, h6, gb_trans h7 hg⟩
  · rw [e1, e2]; exact (blk_new wr 159 _).1
  · rw [e2]; exact h2.grew hg (by simp)
set_option maxRecDepth 20000 in
set_option maxHeartbeats 1000000 in
theorem iwith_c (O : Nat → Prop) (k : Option Addr) (L : List (List Int)) (a : Option Addr) (n c : Nat) (zs : List Int) (w : World) (h : Chn O w k L) (hs : Seg .u8 w a n zs) (hnz : a = none → c = 0) (hb : (chB L).length + n ≤ 70368744177664) :
    Calls Tryd.prog 92 #[.pointer k, .slice a n c] w fun r w' => ∃ k' L', r = .returned (.pointer k') ∧ Chn (fun b => O b ∨ w.heap.size ≤ b) w' k' L' ∧ chB L' = chB L ++ zs ∧ w.grownBy w' none := by
  have hl : zs.length = n := hs.1
  rcases Nat.eq_zero_or_pos n with hn | hn
  · have hz : zs = [] := List.length_eq_zero_iff.1 (by omega)
    subst hn hz
    have HC : Hid (Chn O w k L) := h
    clear h hs
    go_enter Tryd.func92, Tryd.ntmps92
    go_wp2
    go_ret
    exact ⟨k, L, rfl, HC.out.weak (fun b hb => .inl hb), by simp, World.grownBy.refl _ _⟩
  · have HSZ : Hid (Calls Tryd.prog 91 #[.pointer k] w fun r w' => r = .returned (.int .i64 ((chB L).length : Int)) ∧ w' = w) := isize_b O k L w h
    have HCL : Hid (Calls Tryd.prog 112 #[.slice a n c] w fun r w' => ∃ a' cap', r = .returned (.slice a' n cap') ∧ Seg .u8 w' a' n zs ∧ n ≤ cap' ∧ cap' ≤ 9223372036854775807 ∧ (a' = none → cap' = 0) ∧
      (∀ b o s, a' = some ⟨b, o, s⟩ → w.heap.size ≤ b ∧ b < w'.heap.size) ∧ w.grownBy w' none) := slclone_c a n c zs w hs (by omega) hnz
    have HC : Hid (Chn O w k L) := h
    have hne : (n : Int) ≠ 0 := by omega
    have hne2 : ((n : Int) == 0) = false := by simp; omega
    have hzne : zs ≠ [] := fun e => by subst e; simp at hl; omega
    obtain ⟨T, hT⟩ : ∃ T : Nat, T = (chB L).length + n := ⟨_, rfl⟩
    have hTe : ((chB L).length : Int) + (n : Int) = (T : Int) := by omega
    have HAL : Hid ((chB L ++ zs).length = T ∧ T ≤ 70368744177664) := ⟨by rw [List.length_append]; omega, by omega⟩
    have HZ : Hid (zs ≠ []) := hzne
    obtain ⟨M, hM⟩ : ∃ M : Nat, M = (chB L).length := ⟨_, rfl⟩
    rw [← hM] at HSZ hTe hb
    have hwr : IntKind.i64.wrap ((M : Int) + (n : Int)) = (T : Int) := by rw [hTe]; exact IntWalk.i64_in _ ⟨by omega, by omega⟩
    have hw64 : wrap64 (T : Int) = (T : Int) := by simp only [wrap64]; omega
    obtain ⟨all, hall⟩ : ∃ all, all = chB L ++ zs := ⟨_, rfl⟩
    rw [← hall] at HAL ⊢
    have HA : Hid (all = chB L ++ zs) := hall
    clear h hs hzne hl hnz hT hM hall hb
    go_enter Tryd.func92, Tryd.ntmps92
    go_wp2_with (first
      | (go_at_call 91; go_must (refine (Calls.mono HSZ.out ?_)); rintro r wq ⟨rfl, hq⟩; obtain rfl := hq.symm; clear hq)
      | ((fail_if_success (have z := H1)); go_at_call 112; go_must (refine (Calls.mono HCL.out ?_)); rintro r w1 ⟨a1, c1, rfl, q1, q2, q3, q4, q5, q6⟩; have H1 : Hid (WI O w w1 k a1 n c1 zs L all) := ⟨HC.out.keep q6 (by simp) L, q1, HZ.out, q4, fun g o s e => (q5 g o s e).1, HA.out.symm, q6⟩; clear q1 q2 q3 q4 q5 q6))
    go_loopw [0, 1] (fun v u wr => ∃ k a n c ys L, v = .pointer k ∧ u = .slice a n c ∧ Hid (WI O w wr k a n c ys L all)) (fun v _ wr => tAt wr v)
    case atStart => exact ⟨k, a1, n, c1, zs, L, rfl, rfl, H1.out⟩
    case round =>
      clear HC H1 HSZ HCL HZ HA
      obtain ⟨k, a, n, c, ys, L, rfl, rfl, hr⟩ := hrel
      cases L with
      | nil =>
        obtain rfl : k = none := hr.out.1
        go_wp2
        go_ret
        obtain ⟨q1, q2, q3⟩ := wi_box hr.out HAL.out.1
        first | exact ⟨_, _, rfl, q1, q2, q3⟩ | exact ⟨_, rfl, _, q1, q2, q3⟩
      | cons xs L =>
        obtain ⟨b, p, a2, c2, rfl, h2, h3, h4, h5, h6, h7, h8⟩ := hr.out.1
        have k0 : wr.cell? ⟨b, 0, none⟩ = some (.pointer p) := h3.cell 0
        obtain ⟨m, hm⟩ : ∃ m, m = xs.length := ⟨_, rfl⟩
        have k1 : wr.cell? ⟨b, 1, none⟩ = some (.slice a2 m c2) := by rw [hm]; exact h3.cell 1
        have HM : Hid (m = xs.length ∧ Seg .u8 wr a2 m xs ∧ (a2 = none → c2 = 0) ∧ Chn O wr p L) := ⟨hm, by rw [hm]; exact h5, h6, h8⟩
        have HXN : Hid (xs ≠ []) := h4
        have hml : m + n ≤ 70368744177664 := by
          have e := HAL.out
          rw [← hr.out.2.2.2.2.2.1, List.length_append, hr.out.2.1.1] at e
          have : (chB (xs :: L)).length = (chB L).length + xs.length := List.length_append
          omega
        have HKB : Hid (∀ W, wr.grownBy W none → W.cell? ⟨b, 0, none⟩ = some (.pointer p)) := fun W hg => (h3.grew hg (by simp)).cell 0
        clear h2 h3 h4 h5 h6 h7 h8 hm
        rcases Nat.lt_or_ge n m with hlt | hge
        · have hle : ¬ (m : Int) ≤ (n : Int) := by omega
          go_wp2
          go_ret
          obtain ⟨q1, q2, q3⟩ := wi_box hr.out HAL.out.1
          first | exact ⟨_, _, rfl, q1, q2, q3⟩ | exact ⟨_, rfl, _, q1, q2, q3⟩
        · have hle : (m : Int) ≤ (n : Int) := by omega
          have HCT : Hid (∀ X, X = wr.alloc (.cells #[.slice a2 m c2, .slice a n c] 27) → Calls Tryd.prog 113 #[.slice (some ⟨wr.heap.size, 0, none⟩) 2 2] X fun r w' => ∃ v, r = .returned v ∧ Own X.heap.size w' v (m + n) (xs ++ ys) ∧ Below X.heap.size X w') := fun X hX => by
            have hg : wr.grownBy X none := by rw [hX]; exact World.grownBy_alloc _ _ _
            have hb := (blk_new wr 27 #[.slice a2 m c2, .slice a n c]).1
            rw [← hX] at hb
            exact cat_c wr.heap.size m c2 n c a2 a xs ys X (hb.cell 0) (hb.cell 1) (by rw [hX, World.size_alloc]; omega) HM.out.2.2.1 hr.out.2.2.2.1 (HM.out.2.1.grew hg (by simp)) (hr.out.2.1.grew hg (by simp)) (by omega)
          clear hml hge
          go_wp2_with ((fail_if_success (have z := H2)); go_at_call 113; go_must (refine (Calls.mono (HCT.out _ rfl) ?_)); rintro r w2 ⟨v, rfl, q1, q2⟩; obtain ⟨a3, c3, rfl, q3, q4, q5⟩ := own_at q1; have H2 : Hid (Seg .u8 w2 a3 (m + n) (xs ++ ys) ∧ (a3 = none → c3 = 0) ∧ (∀ g o s, a3 = some ⟨g, o, s⟩ → wr.heap.size ≤ g) ∧ wr.grownBy w2 none) := ⟨q3, q4, fun g o s e => by have := q5 g o s e; rw [World.size_alloc] at this; omega, gb_trans (World.grownBy_alloc _ _ _) (below_gbO q2)⟩; replace k0 : w2.cell? ⟨b, 0, none⟩ = some (.pointer p) := HKB.out _ H2.out.2.2.2; clear q1 q2 q3 q4 q5)
          have HR2 : Hid (WI O w w2 p a3 (m + n) c3 (xs ++ ys) L all) := ⟨HM.out.2.2.2.keep H2.out.2.2.2 (by simp) L, H2.out.1, fun e => HXN.out (List.append_eq_nil_iff.1 e).1, H2.out.2.1, fun g o s e => Nat.le_trans hr.out.2.2.2.2.2.2.size (H2.out.2.2.1 g o s e), by rw [← List.append_assoc]; exact hr.out.2.2.2.2.2.1, gb_trans hr.out.2.2.2.2.2.2 H2.out.2.2.2⟩
          have HME : Hid (tAt w2 (.pointer p) < tAt wr (.pointer (some ⟨b, 0, none⟩))) := by
            show tAt w2 (.pointer p) < tAt wr (.pointer (some ⟨b, 0, none⟩))
            rw [tAt_chn HR2.out.1, tAt_chn hr.out.1]
            show _ < (chB L ++ xs).length
            rw [List.length_append]
            have := List.length_pos_iff.2 HXN.out
            omega
          clear H2 HCT HKB k0 k1
          go_roundw
          case rel => exact ⟨p, a3, m + n, c3, xs ++ ys, L, rfl, rfl, HR2.out⟩
          case measure => exact HME.out
end Go.Proofs.YtcdgfghcmeadgaaDoor
namespace Go.Proofs.YtcdgfghcmeadgaaDoor
open Go.RowKit
set_option linter.unusedVariables false

/-- The Writer's block: the first error, the blocks laid aside, the bytes of its part, how many of them are used, how many were laid down. -/
def wcells (e : Int) (d : Value) (ps : List Int) (u n : Int) : List Value := .int .i64 e :: d :: (ps.map (Value.int .u8) ++ [.int .i64 u, .int .i64 n])
def Wr (w : World) (g : Nat) (e : Int) (d : Value) (ps : List Int) (u n : Int) : Prop := w.heap[g]? = some (.cells (wcells e d ps u n).toArray 92 (0, 0)) ∧ ps.length = 256
theorem wcells_at {e d ps u n} (hl : ps.length = 256) : (wcells e d ps u n)[258]? = some (.int .i64 u) ∧ (wcells e d ps u n)[259]? = some (.int .i64 n) := by
  unfold wcells
  constructor
  · rw [List.getElem?_cons_succ, List.getElem?_cons_succ, List.getElem?_append_right (by simp [hl])]; simp [hl]
  · rw [List.getElem?_cons_succ, List.getElem?_cons_succ, List.getElem?_append_right (by simp [hl])]; simp [hl]
theorem wcells_part {e d ps u n} (i : Nat) (hi : i < ps.length) : (wcells e d ps u n)[2 + i]? = some (.int .u8 (ps[i]?.getD 0)) := by
  unfold wcells
  rw [show 2 + i = i + 1 + 1 from by omega, List.getElem?_cons_succ, List.getElem?_cons_succ, List.getElem?_append_left (by simpa using hi)]
  simp [hi]
theorem wcells_set {e d ps u n} (hl : ps.length = 256) (x : Int) : (wcells e d ps u n).set 258 (.int .i64 x) = wcells e d ps x n ∧ (wcells e d ps u n).set 259 (.int .i64 x) = wcells e d ps u x := by
  unfold wcells
  constructor
  · rw [List.set_cons_succ, List.set_cons_succ, List.set_append_right _ _ (by simp [hl])]; simp [hl]
  · rw [List.set_cons_succ, List.set_cons_succ, List.set_append_right _ _ (by simp [hl])]; simp [hl]
theorem wcells_len {e d ps u n} : (wcells e d ps u n).length = ps.length + 4 := by simp [wcells]
theorem wcells_splice {e d ps u n} (k : Nat) (xs : List Int) (h : k + xs.length ≤ ps.length) : splice (wcells e d ps u n) (2 + k) (xs.map (Value.int .u8)) = wcells e d (splice ps k xs) u n := by
  unfold splice wcells
  rw [show 2 + k = k + 1 + 1 from by omega, show k + 1 + 1 + (xs.map (Value.int .u8)).length = k + xs.length + 1 + 1 from by simp; omega]
  simp only [List.take_succ_cons, List.drop_succ_cons, List.cons_append, List.map_append, List.map_take, List.map_drop]
  rw [List.take_append_of_le_length (by simp; omega), List.drop_append_of_le_length (by simpa using h)]
  simp
theorem Wr.c0 {w g e d ps u n} (h : Wr w g e d ps u n) : w.cell? ⟨g, 0, none⟩ = some (.int .i64 e) := by rw [cell_of_row w g 0 _ _ _ h.1]; rfl
theorem Wr.c1 {w g e d ps u n} (h : Wr w g e d ps u n) : w.cell? ⟨g, 1, none⟩ = some d := by rw [cell_of_row w g 1 _ _ _ h.1]; rfl
theorem Wr.cU {w g e d ps u n} (h : Wr w g e d ps u n) : w.cell? ⟨g, 258, none⟩ = some (.int .i64 u) := by rw [cell_of_row w g 258 _ _ _ h.1, List.getElem?_toArray]; exact (wcells_at h.2).1
theorem Wr.cN {w g e d ps u n} (h : Wr w g e d ps u n) : w.cell? ⟨g, 259, none⟩ = some (.int .i64 n) := by rw [cell_of_row w g 259 _ _ _ h.1, List.getElem?_toArray]; exact (wcells_at h.2).2
theorem Wr.cP {w g e d ps u n} (h : Wr w g e d ps u n) (i : Nat) (hi : i < 256) : w.cell? ⟨g, 2 + i, none⟩ = some (.int .u8 (ps[i]?.getD 0)) := by rw [cell_of_row w g _ _ _ _ h.1, List.getElem?_toArray]; exact wcells_part i (by have := h.2; omega)
theorem Wr.free {w g e d ps u n} (h : Wr w g e d ps u n) (i : Nat) : w.frozen? ⟨g, i, none⟩ = false := frozen_of_row w g i _ _ h.1
theorem Wr.lt {w g e d ps u n} (h : Wr w g e d ps u n) : g < w.heap.size := lt_of_block h.1
theorem Wr.setE {w g e d ps u n} (h : Wr w g e d ps u n) (x : Int) : Wr (w.setCell ⟨g, 0, none⟩ (.int .i64 x)) g x d ps u n := by
  refine ⟨?_, h.2⟩; rw [heap_setCell_same w g 0 _ _ _ h.1]; rfl
theorem Wr.setD {w g e d ps u n} (h : Wr w g e d ps u n) (x : Value) : Wr (w.setCell ⟨g, 1, none⟩ x) g e x ps u n := by
  refine ⟨?_, h.2⟩; rw [heap_setCell_same w g 1 _ _ _ h.1]; rfl
theorem Wr.setU {w g e d ps u n} (h : Wr w g e d ps u n) (x : Int) : Wr (w.setCell ⟨g, 258, none⟩ (.int .i64 x)) g e d ps x n := by
  refine ⟨?_, h.2⟩; rw [heap_setCell_same w g 258 _ _ _ h.1, List.setIfInBounds_toArray, (wcells_set h.2 x).1]
theorem Wr.setN {w g e d ps u n} (h : Wr w g e d ps u n) (x : Int) : Wr (w.setCell ⟨g, 259, none⟩ (.int .i64 x)) g e d ps u x := by
  refine ⟨?_, h.2⟩; rw [heap_setCell_same w g 259 _ _ _ h.1, List.setIfInBounds_toArray, (wcells_set h.2 x).2]
theorem Wr.gr {G : Nat → Prop} {w w' g e d ps u n} (h : Wr w g e d ps u n) (hg : Gr G w w') (hn : ¬ G g) : Wr w' g e d ps u n := ⟨(hg.block g h.lt hn).trans h.1, h.2⟩
theorem Wr.part {w g e d ps u n} (h : Wr w g e d ps u n) (k : Nat) (hk : k ≤ 256) : Seg .u8 w (some ⟨g, 2, none⟩) k (ps.take k) := by
  refine ⟨by simp [h.2]; omega, .inr ⟨g, 2, rfl, h.lt, fun i hi => ?_⟩⟩
  rw [h.cP i (by omega), List.getElem?_take_of_lt hi]

/-- copy into the part, as one step of a region that draws. -/
theorem step_lay {ops : Array Oper} {o : Oper} {a : Act} {w : World} {K : Act → World → Prop} {Q : Exit → Act → World → Prop} {E : Prop} (hgd : o.guard = none) (dO sO : Operand)
    (ho : o.op = .call { callee := .builtin .copy, args := #[dO, sO], argTypes := #[27, 27] }) (dp sp : Option Addr) (dLen dCap sLen sCap : Nat) (hd : a.eval dO = .slice dp dLen dCap) (hs : a.eval sO = .slice sp sLen sCap)
    (g k : Nat) (e : Int) (d : Value) (ps xs : List Int) (u n : Int) (hw : Wr w g e d ps u n) (hx : Seg .u8 w sp sLen xs) (hle : k + sLen ≤ 256) (hdl : dLen = 256 - k) (hdp : 0 < sLen → dp = some ⟨g, 2 + k, none⟩)
    (h : ∀ w', Wr w' g e d (splice ps k xs) u n → w.grownBy w' (some g) → K (a.put o.dst (.int .i64 (sLen : Int))) w') :
    if Region.wanted o (yielded ops a.tmps) = true then Oper.wp Tryd.prog o a w K Q else E := by
  have hwt : Region.wanted o (yielded ops a.tmps) = true := by simp [Region.wanted, hgd]
  rw [if_pos hwt]
  obtain ⟨i0, hi, hz0, hz1, hz2⟩ := info_parts Tryd.infoU8
  have hsz : (Tryd.prog.info? 5).map (·.size) = some 1 := by rw [hi]; simp [hz1]
  have hlx := hx.1
  by_cases h0 : sLen = 0
  · subst h0
    obtain rfl : xs = [] := List.eq_nil_of_length_eq_zero hlx
    have hrun := run_copy_none (P := Tryd.prog) w 27 27 o.type 5 dp sp dLen dCap 0 sCap Tryd.underlying27 hsz (by simp)
    unfold Oper.wp
    simp [execOp, ho, resolve, invoke, builtin, hd, hs, hrun, Result.andThen]
    exact h w (by simpa [splice] using hw) (World.grownBy.refl _ _)
  · obtain rfl := hdp (by omega)
    rcases hx.2 with h' | ⟨b, off, rfl, hb, hc⟩
    · omega
    · have hmin : Nat.min sLen dLen = sLen := by rw [hdl]; exact Nat.min_eq_left (by omega)
      have hrun := run_copy_row (P := Tryd.prog) w 27 27 o.type 5 g (2 + k) dLen dCap ⟨b, off, none⟩ sLen sCap (wcells e d ps u n).toArray 92 (xs.map (Value.int .u8)) Tryd.underlying27 hsz hw.1 (by rw [hmin]; simpa using hlx) (seg_news' hx _ rfl) (by have := hw.2; simp [wcells_len]; omega) (by intro v hv; obtain ⟨z, _, rfl⟩ := List.mem_map.1 hv; rfl)
      unfold Oper.wp
      simp only [execOp, ho, resolve, invoke, builtin, hd, hs, hrun, Result.andThen, Sem.run_bind, Sem.run_pure, List.map_toArray, List.map_cons, List.map_nil]
      have hln : goInt ((xs.map (Value.int .u8)).length : Int) = .int .i64 (sLen : Int) := by simp [goInt, hlx]
      rw [hln]
      refine h _ ⟨?_, ?_⟩ ?_
      · have e1 := setRow_heap w g _ ((wcells e d ps u n).toArray.toList.take (2 + k) ++ xs.map (Value.int .u8) ++ (wcells e d ps u n).toArray.toList.drop (2 + k + (xs.map (Value.int .u8)).length)).toArray 92 _ hw.1
        rw [e1, List.append_assoc]
        rw [show (wcells e d ps u n).toArray.toList = wcells e d ps u n from rfl]
        have e2 := wcells_splice (e := e) (d := d) (ps := ps) (u := u) (n := n) k xs (by have := hw.2; omega)
        unfold splice at e2
        rw [e2]; rfl
      · rw [length_splice _ _ _ (by have := hw.2; omega)]; exact hw.2
      · exact ⟨rfl, rfl, rfl, by simp [World.setRow], fun k _ hk => setRow_other w g k _ (fun e => hk (by rw [e]))⟩
end Go.Proofs.YtcdgfghcmeadgaaDoor
namespace Go.Proofs.YtcdgfghcmeadgaaDoor
open Go.RowKit
set_option linter.unusedVariables false

theorem part_type : Tryd.prog.underlying 90 = some (.array 256 5) := by kernel_rfl
theorem slice_from (g u : Nat) (hu : u ≤ 256) (W : World) : Sem.run Tryd.prog (Instr.sliceAt 90 (.pointer (some ⟨g, 2, none⟩)) (some (.int .i64 (u : Int))) none none) W = .ok (.slice (if 256 = u then some ⟨g, 2, none⟩ else some ⟨g, 2 + u, none⟩) (256 - u) (256 - u)) W := by
  obtain ⟨i0, hi, hz0, hz1, hz2⟩ := info_parts Tryd.infoU8
  have hal : Tryd.prog.arrayLen 90 = 256 := by simp [Program.arrayLen]
  have hel : Tryd.prog.elem 90 = 5 := by simp [Program.elem]
  rw [run_sliceAt_array_l W 90 ⟨g, 2, none⟩ (by rw [hal, hel]; exact part_type) .i64 u (by omega) (by rw [hal]; omega)]
  rw [hal, hel]
  by_cases h : 256 = u
  · subst h; simp [sizeOf, typeInfo, hi, slicedAt]
  · simp [sizeOf, typeInfo, hi, slicedAt, hz1, h, Go.WideShapes.add_plain]
theorem slice_to (g u : Nat) (hu : u ≤ 256) (W : World) : Sem.run Tryd.prog (Instr.sliceAt 90 (.pointer (some ⟨g, 2, none⟩)) none (some (.int .i64 (u : Int))) none) W = .ok (.slice (some ⟨g, 2, none⟩) u 256) W := by
  obtain ⟨i0, hi, hz0, hz1, hz2⟩ := info_parts Tryd.infoU8
  have hal : Tryd.prog.arrayLen 90 = 256 := by simp [Program.arrayLen]
  have hel : Tryd.prog.elem 90 = 5 := by simp [Program.elem]
  rw [run_sliceAt_array_h W 90 ⟨g, 2, none⟩ (by rw [hal, hel]; exact part_type) .i64 u (by omega) (by rw [hal]; omega)]
  rw [hal, hel]
  simp [sizeOf, typeInfo, hi, slicedAt, Go.WideShapes.add_plain]

set_option maxRecDepth 20000 in
set_option maxHeartbeats 2000000 in
theorem lay_part (g u n : Nat) (e : Int) (d : Value) (a : Option Addr) (len cap : Nat) (ps xs : List Int) (w : World) (hw : Wr w g e d ps u n) (hx : Seg .u8 w a len xs) (ho : Off a g) (hl : n + len ≤ 140737488355328) (hle : u + len ≤ 256) :
    Calls Tryd.prog 103 #[.pointer (some ⟨g, 0, none⟩), .slice a len cap] w fun r w' => r = .returned (.tuple #[]) ∧ Wr w' g e d (splice ps u xs) ((u + len : Nat) : Int) ((n + len : Nat) : Int) ∧ w.grownBy w' (some g) := by
  have h0 := hw.cU
  have h1 := hw.cN
  have hf := hw.free 259
  have HW : Hid (Wr (w.setCell ⟨g, 259, none⟩ (.int .i64 ((n : Int) + (len : Int)))) g e d ps u ((n : Int) + (len : Int))) := hw.setN _
  have HG : Hid (w.grownBy (w.setCell ⟨g, 259, none⟩ (.int .i64 ((n : Int) + (len : Int)))) (some g)) := grownBy_cell _ _ _ _
  have HS : Hid (Seg .u8 (w.setCell ⟨g, 259, none⟩ (.int .i64 ((n : Int) + (len : Int)))) a len xs) := hx.grew HG (fun k hk => by cases hk; exact ho)
  clear hw hx ho
  go_enter Tryd.func103, Tryd.ntmps103
  go_wp2_with fail
  generalize hW1 : w.setCell ⟨g, 259, none⟩ (.int .i64 ((n : Int) + (len : Int))) = w1 at HW HG HS ⊢
  have k0 := HW.out.cU
  have kf := HW.out.free 258
  clear hW1 h0 h1 hf
  have hu : u ≤ 256 := by omega
  obtain ⟨dp, hdp, HD⟩ : ∃ dp, (if 256 = u then some (⟨g, 2, none⟩ : Addr) else some ⟨g, 2 + u, none⟩) = dp ∧ Hid (0 < len → dp = some ⟨g, 2 + u, none⟩) := ⟨_, rfl, fun h => by rw [if_neg (by omega)]⟩
  have hsl := slice_from g u hu
  rw [hdp] at hsl
  go_region_law (refine step_lay rfl (.tmp 32) (.tmp 33) rfl dp a (256 - u) (256 - u) len cap rfl rfl g u e d ps xs _ _ HW.out HS.out hle rfl HD.out ?_; intro w2 hw2 hg2; have j0 := hw2.cU; have jf := hw2.free 258; replace hw2 : Hid _ := hw2; replace hg2 : Hid _ := hg2)
  all_goals go_wp2
  all_goals first | (simp only [Exit.inBlock, Exit.then]; refine bodyPost_ret (results_none rfl _ _ _) rfl ?_) | refine bodyPost_ret (results_none rfl _ _ _) rfl ?_
  all_goals
    have hwr : IntKind.i64.wrap ((u : Int) + (len : Int)) = ((u + len : Nat) : Int) := by rw [IntKind.wrap_i64]; omega
    rw [hwr, Int.natCast_add n len]
    exact ⟨rfl, Wr.setU hw2.out _, gb_trans HG.out (gb_trans (gb_trans (gb_drewN (World.grownBy.refl _ _) 1) hg2.out) (grownBy_cell _ _ _ _))⟩

theorem block_end {w w1 w2 : World} {g : Nat} {e : Int} {d : Option Addr} {ps : List Int} {u N : Int} {v : Value} {m : Nat} {zs : List Int} (HG : w.grownBy w1 (some g)) (h1 : Own w1.heap.size w2 v m zs) (h2 : Wr w2 g e (.pointer d) ps u N) (h3 : Gr (fun _ => False) w1 w2) (kl : g < w1.heap.size) :
    Wr ((w2.setCell ⟨g, 1, none⟩ (.pointer (some ⟨w2.heap.size, 0, none⟩))).alloc (.cells #[.pointer d, v] 149)) g e (.pointer (some ⟨w2.heap.size, 0, none⟩)) ps u N ∧
    Bk 149 ((w2.setCell ⟨g, 1, none⟩ (.pointer (some ⟨w2.heap.size, 0, none⟩))).alloc (.cells #[.pointer d, v] 149)) w2.heap.size #[.pointer d, v] ∧
    Own w.heap.size ((w2.setCell ⟨g, 1, none⟩ (.pointer (some ⟨w2.heap.size, 0, none⟩))).alloc (.cells #[.pointer d, v] 149)) v m zs ∧
    Gr (fun k => k = g) w ((w2.setCell ⟨g, 1, none⟩ (.pointer (some ⟨w2.heap.size, 0, none⟩))).alloc (.cells #[.pointer d, v] 149)) ∧ w.heap.size ≤ w2.heap.size ∧ g < w2.heap.size := by
  generalize hw3 : w2.setCell ⟨g, 1, none⟩ (.pointer (some ⟨w2.heap.size, 0, none⟩)) = w3
  have hg3 : w2.grownBy w3 (some g) := by rw [← hw3]; exact grownBy_cell _ _ _ _
  have hs3 : w3.heap.size = w2.heap.size := by rw [← hw3]; simp [World.setCell]
  have h4 : Wr w3 g e (.pointer (some ⟨w2.heap.size, 0, none⟩)) ps u N := by rw [← hw3]; exact h2.setD _
  have hga : Gr (fun _ => False) w3 (w3.alloc (.cells #[.pointer d, v] 149)) := Gr.alloc (Gr.refl _ _) _
  have hwg : Gr (fun k => k = g) w w3 := (Gr.of HG (fun k hk => by cases hk; exact .inl rfl)).trans ((h3.wide (fun _ _ h => h.elim)).trans (Gr.of hg3 (fun k hk => by cases hk; exact .inl rfl)))
  have hs1 := HG.size
  have hs2 := h3.size
  refine ⟨h4.gr hga (fun h => h), ?_, ?_, hwg.trans (hga.wide (fun _ _ h => h.elim)), by omega, by omega⟩
  · rw [← hs3]; exact heap_new w3 _
  · refine ⟨h1.1, ?_⟩
    rcases h1.2 with h0 | ⟨b, cap, cur, rfl, hB, hb, r⟩
    · exact .inl h0
    · refine .inr ⟨b, cap, cur, rfl, by omega, ?_, r⟩
      have hlt := lt_of_block hb
      exact (hga.block b (by omega) (fun h => h)).trans ((hg3.block b hlt (fun e => by cases e; omega)).trans hb)

set_option maxRecDepth 20000 in
set_option maxHeartbeats 2000000 in
theorem lay_block (g u n : Nat) (e : Int) (d : Option Addr) (a : Option Addr) (len cap : Nat) (ps xs : List Int) (w : World) (hw : Wr w g e (.pointer d) ps u n) (hx : Seg .u8 w a len xs) (ho : Off a g) (ha : a = none → cap = 0) (hu : u ≤ 256) (hl : n + len ≤ 140737488355328) (hul : u + len ≤ 140737488355328) (hgt : 256 < u + len) :
    Calls Tryd.prog 103 #[.pointer (some ⟨g, 0, none⟩), .slice a len cap] w fun r w' => r = .returned (.tuple #[]) ∧ ∃ b v, Wr w' g e (.pointer (some ⟨b, 0, none⟩)) ps 0 ((n + len : Nat) : Int) ∧ w.heap.size ≤ b ∧ Bk 149 w' b #[.pointer d, v] ∧ Own w.heap.size w' v (u + len) (ps.take u ++ xs) ∧ Gr (fun k => k = g) w w' := by
  have hgw : Hid (g < w.heap.size) := hw.lt
  have h0 := hw.cU
  have h1 := hw.cN
  have hf := hw.free 259
  have HW : Hid (Wr (w.setCell ⟨g, 259, none⟩ (.int .i64 ((n : Int) + (len : Int)))) g e (.pointer d) ps u ((n : Int) + (len : Int))) := hw.setN _
  have HG : Hid (w.grownBy (w.setCell ⟨g, 259, none⟩ (.int .i64 ((n : Int) + (len : Int)))) (some g)) := grownBy_cell _ _ _ _
  have HS : Hid (Seg .u8 (w.setCell ⟨g, 259, none⟩ (.int .i64 ((n : Int) + (len : Int)))) a len xs) := hx.grew HG (fun k hk => by cases hk; exact ho)
  have HA : Hid (a = none → cap = 0) := ha
  have hno : ¬ ((u : Int) + (len : Int) ≤ 256) := by omega
  clear hw hx ho ha
  go_enter Tryd.func103, Tryd.ntmps103
  go_wp2_with fail
  generalize hW1 : w.setCell ⟨g, 259, none⟩ (.int .i64 ((n : Int) + (len : Int))) = w1 at HW HG HS ⊢
  have k0 := HW.out.cU
  have kf := HW.out.free 258
  have k1 := HW.out.c1
  have kf1 := HW.out.free 1
  clear hW1 h0 h1 hf
  have hsl := slice_to g u hu
  have HC : Hid (Calls Tryd.prog 113 #[.slice (some ⟨w1.heap.size, 0, none⟩) 2 2] (w1.alloc (Obj.cells #[.slice (some ⟨g, 2, none⟩) u 256, .slice a len cap] 27)).drew fun r w' => ∃ va vn vc, r = .returned (.slice va vn vc) ∧ Hid (Own w1.heap.size w' (.slice va vn vc) (u + len) (ps.take u ++ xs) ∧ Wr w' g e (.pointer d) ps u ((n : Int) + (len : Int)) ∧ Gr (fun _ => False) w1 w')) := by
    generalize hW2 : (w1.alloc (Obj.cells #[.slice (some ⟨g, 2, none⟩) u 256, .slice a len cap] 27)).drew = w2
    have hb2 : w2.heap[w1.heap.size]? = some (Obj.cells #[.slice (some ⟨g, 2, none⟩) u 256, .slice a len cap] 27 (0, 0)) := by rw [← hW2]; exact heap_new w1 _
    have hg2 : Gr (fun _ => False) w1 w2 := by rw [← hW2]; exact (Gr.alloc (Gr.refl _ _) _).drewN 1
    have hsz2 : w2.heap.size = w1.heap.size + 1 := by rw [← hW2]; show (w1.heap.push _).size = _; simp
    have := cat_c w1.heap.size u 256 len cap (some ⟨g, 2, none⟩) a (ps.take u) xs w2 (by rw [cell_of_row w2 _ 0 _ _ _ hb2]; rfl) (by rw [cell_of_row w2 _ 1 _ _ _ hb2]; rfl) (by omega) (fun h => by cases h) HA.out ((HW.out.part u hu).gr hg2 (fun _ h => h.elim)) (HS.out.gr hg2 (fun _ h => h.elim)) hul
    refine Calls.mono this ?_
    rintro r w' ⟨v, rfl, h1, h2⟩
    have hg3 : Gr (fun _ => False) w1 w' := hg2.trans ⟨h2.os, h2.tape, h2.output, h2.size, fun k hk _ => h2.block k hk⟩
    obtain ⟨va, vc, rfl, _⟩ := h1.seg
    exact ⟨va, _, vc, rfl, h1.base (by omega), HW.out.gr hg3 (fun h => h), hg3⟩
  have kA := fun o => (HW.out.gr (Gr.alloc (Gr.refl (fun _ => False) _) o) (fun h => h)).c1
  have kl := HW.out.lt
  go_region_with (go_at_call 113; refine (Calls.mono HC.out ?_); rintro _ w2 ⟨va, vn, vc, rfl, H2⟩; have j1 := H2.out.2.1.c1; have jf1 := H2.out.2.1.free 1; have jl := H2.out.2.1.lt; have ja := fun o => (H2.out.2.1.gr (Gr.alloc (Gr.refl (fun _ => False) _) o) (fun h => h)).c1; have jb := fun o => (H2.out.2.1.gr (Gr.alloc (Gr.refl (fun _ => False) _) o) (fun h => h)).free 1)
  all_goals
    clear kA ja jb
    have hE := block_end HG.out H2.out.1 H2.out.2.1 H2.out.2.2 kl
    generalize hB : w2.heap.size = b at hE ⊢
    generalize hW3 : (w2.setCell ⟨g, 1, none⟩ (.pointer (some ⟨b, 0, none⟩))).alloc (.cells #[.pointer d, .slice va vn vc] 149) = w3 at hE ⊢
    have q0 := hE.1.cU
    have qf := hE.1.free 258
    replace hE : Hid _ := hE
    clear hW3 hB HC H2 j1 jf1 jl k0 k1 kf kf1 kl hsl HW HG HS
    go_wp2
    go_end0
    refine ⟨rfl, b, .slice va vn vc, by rw [Int.natCast_add n len]; exact hE.out.1.setU 0, hE.out.2.2.2.2.1, ?_, ?_, ?_⟩
    · exact hE.out.2.1.grew (grownBy_cell w3 g 258 _) (fun e => by have := hE.out.2.2.2.2.2; cases e; omega)
    · exact hE.out.2.2.1.grown (grownBy_cell w3 g 258 _) (fun k hk e => by have := (hE.out.2.2.1.lo k hk).1; have := hgw.out; cases e; omega)
    · exact hE.out.2.2.2.1.trans (Gr.of (grownBy_cell w3 g 258 _) (fun k hk => by cases hk; exact .inl rfl))
end Go.Proofs.YtcdgfghcmeadgaaDoor
namespace Go.Proofs.YtcdgfghcmeadgaaDoor
open Go.RowKit
set_option linter.unusedVariables false

/-- The blocks that were laid aside, the last one first, and all their bytes; which blocks of memory that takes. -/
def ChainL (w : World) : List Nat → Option Addr → List Int → Prop
  | [], d, ys => d = none ∧ ys = []
  | [_], _, _ => False
  | b :: k :: fs, d, ys => ∃ (cap : Nat) (d' : Option Addr) (ys' zs : List Int), d = some ⟨b, 0, none⟩ ∧ ys = ys' ++ zs ∧ Bk 149 w b #[.pointer d', .slice (some ⟨k, 0, none⟩) zs.length cap] ∧ Seg .u8 w (some ⟨k, 0, none⟩) zs.length zs ∧ k < w.heap.size ∧ 0 < zs.length ∧ ChainL w fs d' ys'
def Chain (w : World) (d : Option Addr) (ys : List Int) (fs : List Nat) : Prop := ChainL w fs d ys
theorem chain_nil (w : World) : Chain w none [] [] := ⟨rfl, rfl⟩
theorem chain_cons {w : World} (b k cap : Nat) (d : Option Addr) (ys zs : List Int) (fs : List Nat) (hb : Bk 149 w b #[.pointer d, .slice (some ⟨k, 0, none⟩) zs.length cap]) (hs : Seg .u8 w (some ⟨k, 0, none⟩) zs.length zs) (hk : k < w.heap.size) (hz : 0 < zs.length) (hc : Chain w d ys fs) : Chain w (some ⟨b, 0, none⟩) (ys ++ zs) (b :: k :: fs) :=
  ⟨cap, d, ys, zs, rfl, rfl, hb, hs, hk, hz, hc⟩
theorem Chain.ways {w d ys fs} (h : Chain w d ys fs) : (d = none ∧ ys = [] ∧ fs = []) ∨ ∃ (b k cap : Nat) (d' : Option Addr) (ys' zs : List Int) (fs' : List Nat), d = some ⟨b, 0, none⟩ ∧ ys = ys' ++ zs ∧ fs = b :: k :: fs' ∧ Bk 149 w b #[.pointer d', .slice (some ⟨k, 0, none⟩) zs.length cap] ∧ Seg .u8 w (some ⟨k, 0, none⟩) zs.length zs ∧ k < w.heap.size ∧ 0 < zs.length ∧ Chain w d' ys' fs' := by
  match fs, h with
  | [], h => exact .inl ⟨h.1, h.2, rfl⟩
  | [_], h => exact absurd h (by simp [Chain, ChainL])
  | b :: k :: fs, h =>
    obtain ⟨cap, d', ys', zs, h1, h2, h3⟩ := h
    exact .inr ⟨b, k, cap, d', ys', zs, fs, h1, h2, rfl, h3⟩
theorem chain_gr {G : Nat → Prop} {w w' : World} : ∀ (n : Nat) {d ys fs}, fs.length ≤ n → Chain w d ys fs → Gr G w w' → (∀ k ∈ fs, ¬ G k) → Chain w' d ys fs
  | n, d, ys, fs, hl, h, hg, hn => by
    rcases h.ways with ⟨rfl, rfl, rfl⟩ | ⟨b, k, cap, d', ys', zs, fs', rfl, rfl, rfl, hb, hs, hk, hz, hc⟩
    · exact chain_nil _
    · match n, hl with
      | n + 1, hl =>
        have ih := chain_gr n (by simp at hl; omega) hc hg (fun j hj => hn j (by simp [hj]))
        refine chain_cons b k cap d' ys' zs fs' (hb.gr hg (hn b (by simp))) (hs.gr hg (fun j hj => ?_)) (Nat.lt_of_lt_of_le hk hg.size) hz ih
        intro b' o s e
        simp only [Option.some.injEq, Addr.mk.injEq] at e
        obtain ⟨rfl, _⟩ := e
        rintro rfl
        exact hn k (by simp) hj
theorem Chain.gr {G : Nat → Prop} {w w' d ys fs} (h : Chain w d ys fs) (hg : Gr G w w') (hn : ∀ k ∈ fs, ¬ G k) : Chain w' d ys fs := chain_gr fs.length (Nat.le_refl _) h hg hn
theorem chain_lt {w : World} : ∀ (n : Nat) {d ys fs}, fs.length ≤ n → Chain w d ys fs → ∀ k ∈ fs, k < w.heap.size
  | n, d, ys, fs, hl, h => by
    rcases h.ways with ⟨rfl, rfl, rfl⟩ | ⟨b, k, cap, d', ys', zs, fs', rfl, rfl, rfl, hb, hs, hk, hz, hc⟩
    · simp
    · match n, hl with
      | n + 1, hl =>
        have ih := chain_lt n (by simp at hl; omega) hc
        intro j hj
        simp only [List.mem_cons] at hj
        rcases hj with rfl | rfl | hj
        · exact lt_of_block hb
        · exact hk
        · exact ih j hj
theorem Chain.lt {w d ys fs} (h : Chain w d ys fs) : ∀ k ∈ fs, k < w.heap.size := chain_lt fs.length (Nat.le_refl _) h
/-- The Writer as plain data: what was laid down, the first error; fs: the blocks of memory that it has besides its own. -/
def WS (w : World) (g : Nat) (ys : List Int) (e : Int) (fs : List Nat) : Prop :=
  ∃ d ps u cs, Wr w g e (.pointer d) ps ((u : Nat) : Int) ((ys.length : Nat) : Int) ∧ Chain w d cs fs ∧ u ≤ 256 ∧ ys = cs ++ ps.take u ∧ g ∉ fs ∧ Bytes ys
/-- What a call of it comes to. -/
def WGoes (w : World) (g : Nat) (fs : List Nat) (w' : World) (ys' : List Int) (e' : Int) : Prop :=
  ∃ fs', WS w' g ys' e' fs' ∧ Gr (fun k => k = g) w w' ∧ ∀ k ∈ fs', k ∈ fs ∨ w.heap.size ≤ k
theorem WS.stay {w g ys e fs} (h : WS w g ys e fs) : WGoes w g fs w ys e := ⟨fs, h, Gr.refl _ _, fun k hk => .inl hk⟩
theorem WS.lt {w g ys e fs} (h : WS w g ys e fs) : g < w.heap.size := by obtain ⟨d, ps, u, cs, h1, _⟩ := h; exact h1.lt
theorem WS.bytes {w g ys e fs} (h : WS w g ys e fs) : Bytes ys := by obtain ⟨d, ps, u, cs, _, _, _, _, _, h⟩ := h; exact h
theorem WS.c0 {w g ys e fs} (h : WS w g ys e fs) : w.cell? ⟨g, 0, none⟩ = some (.int .i64 e) := by obtain ⟨d, ps, u, cs, h1, _⟩ := h; exact h1.c0
theorem WS.cN {w g ys e fs} (h : WS w g ys e fs) : w.cell? ⟨g, 259, none⟩ = some (.int .i64 (ys.length : Int)) := by obtain ⟨d, ps, u, cs, h1, _⟩ := h; exact h1.cN
theorem WS.free {w g ys e fs} (h : WS w g ys e fs) (i : Nat) : w.frozen? ⟨g, i, none⟩ = false := by obtain ⟨d, ps, u, cs, h1, _⟩ := h; exact h1.free i
theorem WS.gr {G : Nat → Prop} {w w' g ys e fs} (h : WS w g ys e fs) (hg : Gr G w w') (h1 : ¬ G g) (h2 : ∀ k ∈ fs, ¬ G k) : WS w' g ys e fs := by
  obtain ⟨d, ps, u, cs, a, b, c⟩ := h
  exact ⟨d, ps, u, cs, a.gr hg h1, b.gr hg h2, c⟩
theorem WS.new {w w' g ys e fs} (h : WS w g ys e fs) (hg : w.grownBy w' none) : WS w' g ys e fs := h.gr (G := fun _ => False) (Gr.of hg (by simp)) (by simp) (by simp)
theorem WS.setE {w g ys e fs} (h : WS w g ys e fs) (x : Int) : WS (w.setCell ⟨g, 0, none⟩ (.int .i64 x)) g ys x fs := by
  obtain ⟨d, ps, u, cs, a, b, c, c2, c3, c4⟩ := h
  exact ⟨d, ps, u, cs, a.setE x, b.gr (Gr.of (G := fun k => k = g) (grownBy_cell w g 0 _) (fun k hk => by cases hk; exact .inl rfl)) (fun k hk e => c3 (e ▸ hk)), c, c2, c3, c4⟩
theorem WGoes.then {w g fs w1 w2 ys1 e1 ys2 e2} (h : WGoes w g fs w1 ys1 e1) (k : ∀ fs', WS w1 g ys1 e1 fs' → WGoes w1 g fs' w2 ys2 e2) : WGoes w g fs w2 ys2 e2 := by
  obtain ⟨f1, h1, g1, l1⟩ := h
  obtain ⟨f2, h2, g2, l2⟩ := k f1 h1
  refine ⟨f2, h2, g1.trans g2, fun j hj => ?_⟩
  rcases l2 j hj with h | h
  · exact l1 j h
  · exact .inr (Nat.le_trans g1.size h)
theorem bytes_app {ys zs : List Int} (h1 : Bytes ys) (h2 : Bytes zs) : Bytes (ys ++ zs) := fun i hi => by
  rw [List.length_append] at hi
  by_cases h : i < ys.length
  · rw [List.getElem?_append_left h]; exact h1 i h
  · rw [List.getElem?_append_right (by omega)]; exact h2 _ (by omega)
theorem splice_take {ps zs : List Int} {u : Nat} (h : u + zs.length ≤ ps.length) : (splice ps u zs).take (u + zs.length) = ps.take u ++ zs := by
  unfold splice
  rw [← List.append_assoc, List.take_append_of_le_length (by simp; omega)]
  exact List.take_of_length_le (by simp; omega)
theorem lay_c (g : Nat) (ys zs : List Int) (e : Int) (fs : List Nat) (a : Option Addr) (len cap : Nat) (w : World) (hw : WS w g ys e fs) (hx : Seg .u8 w a len zs) (ho : Off a g) (ha : a = none → cap = 0) (hz : Bytes zs) (hl : ys.length + len ≤ 140737488355328) :
    Calls Tryd.prog 103 #[.pointer (some ⟨g, 0, none⟩), .slice a len cap] w fun r w' => r = .returned (.tuple #[]) ∧ WGoes w g fs w' (ys ++ zs) e := by
  obtain ⟨d, ps, u, cs, h1, h2, h3, h4, h5, h6⟩ := hw
  have hlz := hx.1
  have hyl : ys.length = cs.length + u := by rw [h4]; simp [h1.2]; omega
  by_cases h : u + len ≤ 256
  · refine Calls.mono (lay_part g u ys.length e (.pointer d) a len cap ps zs w h1 hx ho hl h) ?_
    rintro r w' ⟨rfl, a1, a2⟩
    have hg : Gr (fun k => k = g) w w' := Gr.of a2 (fun k hk => by cases hk; exact .inl rfl)
    refine ⟨rfl, fs, ⟨d, splice ps u zs, u + len, cs, ?_, h2.gr hg (fun k hk e => h5 (e ▸ hk)), h, ?_, h5, bytes_app h6 hz⟩, hg, fun k hk => .inl hk⟩
    · rw [List.length_append, hlz]; exact a1
    · have := h1.2
      rw [h4, ← hlz, splice_take (by omega), List.append_assoc]
  · refine Calls.mono (lay_block g u ys.length e d a len cap ps zs w h1 hx ho ha h3 hl (by omega) (by omega)) ?_
    rintro r w' ⟨rfl, b, v, a1, a2, a3, a4, a5⟩
    obtain ⟨k, vc, rfl, hk, hkc⟩ := a4.form (by omega)
    have hcl : (ps.take u ++ zs).length = u + len := by simp [h1.2, hlz]; omega
    obtain ⟨a', c', he, hs, _⟩ := a4.seg
    cases he
    have hkl := (a4.lo k rfl).2
    refine ⟨rfl, b :: k :: fs, ⟨_, ps, 0, cs ++ (ps.take u ++ zs), ?_, chain_cons b k vc d cs _ fs ?_ ?_ hkl (by rw [hcl]; omega) (h2.gr a5 (fun j hj e => h5 (e ▸ hj))), by omega, ?_, ?_, bytes_app h6 hz⟩, a5, ?_⟩
    · rw [List.length_append, hlz]; exact a1
    · rw [hcl]; exact a3
    · rw [hcl]; exact hs
    · rw [h4]; simp
    · have := h1.lt
      simp only [List.mem_cons, not_or]
      exact ⟨by omega, by omega, h5⟩
    · intro j hj
      simp only [List.mem_cons] at hj
      rcases hj with rfl | rfl | hj
      · exact .inr a2
      · exact .inr hk
      · exact .inl hj
end Go.Proofs.YtcdgfghcmeadgaaDoor
namespace Go.Proofs.YtcdgfghcmeadgaaDoor
set_option linter.unusedVariables false

/-- A number's bytes. -/
def enc (v : Nat) : List Int := if h : v < 128 then [(v : Int)] else ((v % 128 + 128 : Nat) : Int) :: enc (v / 128)
theorem enc_small {v : Nat} (h : v < 128) : enc v = [(v : Int)] := by rw [enc, dif_pos h]
theorem enc_big {v : Nat} (h : 128 ≤ v) : enc v = ((v % 128 + 128 : Nat) : Int) :: enc (v / 128) := by rw [enc, dif_neg (by omega)]
/-- Several numbers' bytes. -/
def encs : List Int → List Int
  | [] => []
  | v :: l => enc v.toNat ++ encs l
theorem encs_snoc (l : List Int) (v : Int) : encs (l ++ [v]) = encs l ++ enc v.toNat := by
  induction l with
  | nil => simp [encs]
  | cons x l ih => simp [encs, ih]

theorem st_div (c v : Int) : st (128 * c) v = st c (v / 128) := by
  unfold st; split <;> split <;> omega
theorem sz_step (v : Int) (h : 128 ≤ v) (h2 : v < 18446744073709551616) : sz v = 1 + sz (v / 128) := by
  unfold sz
  have a1 := st_div 128 v
  have a2 := st_div 16384 v
  have a3 := st_div 2097152 v
  have a4 := st_div 268435456 v
  have a5 := st_div 34359738368 v
  have a6 := st_div 4398046511104 v
  have a7 := st_div 562949953421312 v
  have a8 := st_div 72057594037927936 v
  have a9 : st 9223372036854775808 (v / 128) = 0 := st_no (by omega)
  have a0 : st 128 v = 1 := st_yes h
  simp only [Int.reduceMul] at a1 a2 a3 a4 a5 a6 a7 a8
  omega
theorem enc_length (v : Nat) (h : v < 18446744073709551616) : (enc v).length = sz v := by
  induction v using Nat.strongRecOn with
  | ind v ih =>
    by_cases h1 : v < 128
    · rw [enc_small h1, sz_1 v (by omega)]; rfl
    · rw [enc_big (by omega), List.length_cons, ih (v / 128) (by omega) (by omega), sz_step v (by omega) (by omega)]
      rw [show ((v : Int) / 128) = ((v / 128 : Nat) : Int) from by omega]; omega
theorem enc_pos (v : Nat) : 1 ≤ (enc v).length := by
  by_cases h : v < 128
  · rw [enc_small h]; simp
  · rw [enc_big (by omega)]; simp
theorem enc_bytes (v : Nat) : ∀ c ∈ enc v, 0 ≤ c ∧ c < 256 := by
  induction v using Nat.strongRecOn with
  | ind v ih =>
    by_cases h1 : v < 128
    · rw [enc_small h1]; simp; omega
    · rw [enc_big (by omega)]
      intro c hc
      rcases List.mem_cons.1 hc with rfl | hc
      · omega
      · exact ih (v / 128) (by omega) c hc
theorem bytes_of_mem {l : List Int} (h : ∀ c ∈ l, 0 ≤ c ∧ c < 256) : Bytes l := fun i hi => by
  have := h l[i] (List.getElem_mem hi)
  simpa [hi] using this
theorem encs_bytes (l : List Int) : ∀ c ∈ encs l, 0 ≤ c ∧ c < 256 := by
  induction l with
  | nil => simp [encs]
  | cons x l ih =>
    intro c hc
    simp only [encs, List.mem_append] at hc
    rcases hc with hc | hc
    · exact enc_bytes _ c hc
    · exact ih c hc
theorem val_enc (v : Nat) : val (enc v) = v := by
  induction v using Nat.strongRecOn with
  | ind v ih =>
    by_cases h1 : v < 128
    · rw [enc_small h1]; simp [val]; omega
    · rw [enc_big (by omega), val, ih (v / 128) (by omega)]; omega
/-- All bytes but the last go on; the last one does not, and is not 0 behind another one. -/
theorem enc_form (v : Nat) (rest : List Int) : (∀ j, j + 1 < (enc v).length → 128 ≤ (enc v ++ rest)[j]?.getD 0) ∧ (0 ≤ (enc v ++ rest)[(enc v).length - 1]?.getD 0 ∧ (enc v ++ rest)[(enc v).length - 1]?.getD 0 < 128) ∧ (1 < (enc v).length → (enc v ++ rest)[(enc v).length - 1]?.getD 0 ≠ 0) := by
  induction v using Nat.strongRecOn with
  | ind v ih =>
    by_cases h1 : v < 128
    · rw [enc_small h1]; simp; omega
    · obtain ⟨a, b, c⟩ := ih (v / 128) (by omega)
      have hp := enc_pos (v / 128)
      rw [enc_big (by omega)]
      have e : ((((v % 128 + 128 : Nat) : Int) :: enc (v / 128)).length - 1) = ((enc (v / 128)).length - 1) + 1 := by simp; omega
      rw [e]
      refine ⟨fun j hj => ?_, ?_, fun _ => ?_⟩
      · cases j with
        | zero => simp; omega
        | succ j => simpa using a j (by simp at hj; omega)
      · simpa using b
      · by_cases h2 : 1 < (enc (v / 128)).length
        · simpa using c h2
        · have hs : v / 128 < 128 := by
            rcases Nat.lt_or_ge (v / 128) 128 with h | h
            · exact h
            · rw [enc_big h] at h2
              have := enc_pos (v / 128 / 128)
              simp at h2; simp [h2] at this
          rw [enc_small hs]
          simp; omega
theorem take_enc (v : Nat) (rest : List Int) : (enc v ++ rest).take ((enc v).length - 1 + 1) = enc v := by
  have := enc_pos v
  rw [show (enc v).length - 1 + 1 = (enc v).length from by omega, List.take_left']
  rfl
/-- What is written is read, whatever stands behind. -/
theorem rd_enc (v : Nat) (h : v < 18446744073709551616) (rest : List Int) : rd (enc v ++ rest) = ((v : Int), ((enc v).length : Int), 0) := by
  obtain ⟨a, b, c⟩ := enc_form v rest
  have hp := enc_pos v
  have hl := enc_length v h
  have hs := sz_bd v
  have ht := take_enc v rest
  have := rd_ok (enc v ++ rest) ((enc v).length - 1) (fun j hj => a j (by omega)) (by simp; omega) (by omega) b.2 (fun h9 => ?_) (fun h0 => c (by omega))
  · rw [this, ht, val_enc]
    rw [show (((enc v).length - 1 : Nat) : Int) + 1 = (enc v).length from by omega]
  · -- the tenth byte
    have e1 : val ((enc v ++ rest).take ((enc v).length - 1 + 1)) = v := by rw [ht]; exact val_enc v
    rw [take_snoc _ _ (by simp; omega), val_snoc] at e1
    have hn := val_nonneg ((enc v ++ rest).take ((enc v).length - 1))
    have hl2 : ((enc v ++ rest).take ((enc v).length - 1)).length = 9 := by simp; omega
    rw [hl2, Int.emod_eq_of_lt b.1 b.2] at e1
    have e2 : (2 : Int) ^ (7 * 9) = 9223372036854775808 := by decide
    rw [e2] at e1
    omega
theorem val_pos (xs : List Int) (k : Nat) (hk : k < xs.length) (h0 : 0 < xs[k]?.getD 0) (h1 : xs[k]?.getD 0 < 128) : 1 ≤ val (xs.take (k + 1)) := by
  rw [take_snoc xs k hk, val_snoc, Int.emod_eq_of_lt (by omega) h1]
  have := val_nonneg (xs.take k)
  have hp := pow_pos2 (7 * (xs.take k).length)
  have : 0 < 2 ^ (7 * (xs.take k).length) * xs[k]?.getD 0 := Int.mul_pos hp h0
  omega
/-- What is read is written. -/
theorem enc_val : ∀ (k : Nat) (xs : List Int), k < xs.length → (∀ j, j < k → 128 ≤ xs[j]?.getD 0 ∧ xs[j]?.getD 0 < 256) → 0 ≤ xs[k]?.getD 0 → xs[k]?.getD 0 < 128 → (0 < k → xs[k]?.getD 0 ≠ 0) →
    enc (val (xs.take (k + 1))).toNat = xs.take (k + 1)
  | 0, c :: l, _, _, h0, h1, _ => by
    simp at h0 h1
    simp [val]
    rw [show (c % 128).toNat = c.toNat from by omega, enc_small (by omega)]
    simp; omega
  | k + 1, c :: l, hk, h, h0, h1, h2 => by
    have hc := h 0 (by omega)
    simp at hc hk h0 h1
    have h2' := h2 (by omega)
    simp at h2'
    have hv := val_pos l k hk (by omega) h1
    have ih := enc_val k l hk (fun j hj => by have := h (j + 1) (by omega); simpa using this) h0 h1 (fun _ => h2')
    rw [List.take_succ_cons, val]
    have e : (c % 128 + 128 * val (l.take (k + 1))).toNat = (c % 128).toNat + 128 * (val (l.take (k + 1))).toNat := by omega
    rw [e, enc_big (by omega)]
    rw [show ((c % 128).toNat + 128 * (val (l.take (k + 1))).toNat) / 128 = (val (l.take (k + 1))).toNat from by omega, ih]
    congr 1
    omega
theorem rd_back (xs : List Int) (hx : Bytes xs) (h : (rd xs).2.2 = 0) : 1 ≤ (rd xs).2.1 ∧ (rd xs).2.1 ≤ xs.length ∧ enc (rd xs).1.toNat = xs.take (rd xs).2.1.toNat := by
  have hle : lead xs ≤ xs.length := by
    clear hx h
    induction xs with
    | nil => simp [lead]
    | cons c l ih => simp only [lead, List.length_cons]; split <;> omega
  have hat : ∀ j, (j < lead xs → 128 ≤ xs[j]?.getD 0) ∧ (j = lead xs → j < xs.length → xs[j]?.getD 0 < 128) := by
    clear hx h hle
    induction xs with
    | nil => intro j; simp [lead]
    | cons c l ih =>
      intro j
      simp only [lead, List.length_cons]
      by_cases hc : 128 ≤ c
      · rw [if_pos hc]
        cases j with
        | zero => exact ⟨fun _ => by simpa using hc, fun h => by omega⟩
        | succ j => have := ih j; exact ⟨fun h => by simpa using this.1 (by omega), fun h h' => by simpa using this.2 (by omega) (by omega)⟩
      · rw [if_neg hc]
        exact ⟨fun h => by omega, fun h _ => by subst h; simp; omega⟩
  unfold rd at h ⊢
  split at h
  · simp at h
  · rename_i n1
    rw [if_neg n1]
    split at h
    · simp at h
    · rename_i n2
      rw [if_neg n2]
      split at h
      · simp at h
      · rename_i n3
        rw [if_neg n3]
        have hlt : lead xs < xs.length := by omega
        have hb := hx _ hlt
        refine ⟨by simp only; omega, by simp only; omega, ?_⟩
        have := enc_val (lead xs) xs hlt (fun j hj => ⟨(hat j).1 hj, (hx j (by omega)).2⟩) hb.1 ((hat _).2 rfl hlt) (fun h0 h1 => n3 ⟨h0, h1⟩)
        simp only
        rw [this]
        congr 1
theorem rd_zero (xs : List Int) (h : (rd xs).2.2 ≠ 0) : (rd xs).1 = 0 ∧ (rd xs).2.1 = 0 := by
  unfold rd at h ⊢
  split
  · simp
  · split
    · simp
    · split
      · simp
      · rename_i n1 n2 n3; rw [if_neg n1, if_neg n2, if_neg n3] at h; simp at h
/-- No number's bytes begin another one's. -/
theorem enc_prefix (v w : Nat) (hv : v < 18446744073709551616) (hw : w < 18446744073709551616) (rest : List Int) (h : enc w = enc v ++ rest) : v = w := by
  have a := rd_enc v hv rest
  have b := rd_enc w hw []
  rw [List.append_nil, h, a] at b
  have := congrArg Prod.fst b
  simp at this
  omega
theorem encs_inj : ∀ (l m : List Int), (∀ v ∈ l, 0 ≤ v ∧ v < 18446744073709551616) → (∀ v ∈ m, 0 ≤ v ∧ v < 18446744073709551616) → encs l = encs m → l = m
  | [], [], _, _, _ => rfl
  | [], w :: m, _, _, h => by
    have := congrArg List.length h
    simp only [encs, List.length_append, List.length_nil] at this
    have hp := enc_pos w.toNat
    omega
  | v :: l, [], _, _, h => by
    have := congrArg List.length h
    simp only [encs, List.length_append, List.length_nil] at this
    have hp := enc_pos v.toNat
    omega
  | v :: l, w :: m, hl, hm, h => by
    simp only [encs] at h
    have hv := hl v (by simp)
    have hw := hm w (by simp)
    have a := rd_enc v.toNat (by omega) (encs l)
    have b := rd_enc w.toNat (by omega) (encs m)
    rw [h, b] at a
    have e := congrArg Prod.fst a
    simp at e
    have e2 : v = w := by omega
    subst e2
    rw [encs_inj l m (fun x hx => hl x (by simp [hx])) (fun x hx => hm x (by simp [hx])) (List.append_cancel_left h)]
end Go.Proofs.YtcdgfghcmeadgaaDoor
namespace Go.Proofs.YtcdgfghcmeadgaaDoor
open Go.RowKit
set_option linter.unusedVariables false

theorem encs_length (xs : List Int) (h : Bits64 xs) : (encs xs).length = szs xs := by
  induction xs with
  | nil => rfl
  | cons v l ih =>
    have hv := h 0 (by simp)
    simp at hv
    have hl : Bits64 l := fun i hi => by have := h (i + 1) (by simp; omega); simpa using this
    simp only [encs, szs, List.length_append, ih hl]
    rw [enc_length v.toNat (by omega), Int.toNat_of_nonneg hv.1]
theorem encs_take_le (xs : List Int) (k : Nat) : (encs (xs.take k)).length ≤ (encs xs).length := by
  induction xs generalizing k with
  | nil => simp
  | cons v l ih =>
    cases k with
    | zero => simp [encs]
    | succ k => simp only [List.take_succ_cons, encs, List.length_append]; have := ih k; omega
theorem or_128 (V : Int) : bits .or .u8 (V % 256) 128 = V % 128 + 128 := by
  have h : ∀ x : Fin 256, bits .or .u8 ((x.val : Nat) : Int) 128 = ((x.val % 128 + 128 : Nat) : Int) := by decide +kernel
  have := h ⟨(V % 256).toNat, by omega⟩
  rw [show (V % 256) = ((V % 256).toNat : Int) from by omega, this]
  simp only
  omega
theorem one_new (w : World) (T : TypeId) (u : Value) : ∀ (j : Nat) (v : Value), [u][j]? = some v → (w.alloc (.cells #[u] T)).cell? ((⟨w.heap.size, 0, none⟩ : Addr).add j) = some v := by
  intro j v hj
  match j, hj with
  | 0, hj => simp at hj; subst hj; simp [Addr.add]
theorem one_one (k : IntKind) (x : Int) : ∀ u ∈ [Value.int k x], u.oneCell' = true := by
  intro u hu; simp at hu; subst hu; rfl

/-- The row that is being filled: its first bytes are L, it has room for n. -/
def Filling (w : World) (B g n m : Nat) (L : List Int) : Prop := m = L.length ∧ w.ownsRow B 5 1 (.slice (some ⟨g, 0, none⟩) m n) m (L.map (Value.int .u8))
theorem Filling.push {w1 : World} {B g n m : Nat} {L : List Int} {x : Int} (hm : m = L.length) (h : w1.ownsRow B 5 1 (.slice (some ⟨g, 0, none⟩) (m + 1) n) (m + 1) (L.map (Value.int .u8) ++ [.int .u8 x])) : Filling w1 B g n (m + 1) (L ++ [x]) :=
  ⟨by simp [hm], by rw [List.map_append]; exact h⟩

set_option maxHeartbeats 1000000 in
theorem encode_c (a : Option Addr) (len cap : Nat) (xs : List Int) (w : World) (h : Seg .u64 w a len xs) (hx : Bits64 xs) (hl : len ≤ 1099511627776) :
    Calls Tryd.prog 104 #[.slice a len cap] w fun e w' => ∃ g n, e = .returned (.slice (some ⟨g, 0, none⟩) n n) ∧ n = (encs xs).length ∧ w.heap.size ≤ g ∧ Row .u8 5 w' g (encs xs) ∧ Below w.heap.size w w' := by
  obtain ⟨i0, hi, hz0, hz1, hz2⟩ := info_parts Tryd.infoU8
  have HS : Hid (Seg .u64 w a len xs) := h
  have HX : Hid (Bits64 xs) := hx
  have HE := encs_length xs hx
  have hsz := szs_le xs
  rw [h.1] at hsz
  clear h hx
  go_enter Tryd.func104, Tryd.ntmps104
  go_wp2_with (first
    | (go_at_call 116; go_must (refine (size_c a len cap xs w HS.out HX.out (by omega)).mono ?_); rintro e w' ⟨rfl, rfl⟩)
    | (at_make; go_must (refine wpList_make_own _ rfl _ _ 27 rfl w'.heap.size 5 i0 (.int .u8 0) 1 Tryd.underlying27 hi hz0 hz1 _ _ _ (szs xs) rfl rfl rfl (by rw [hz2]; omega) (by unfold maxLen; omega) (Nat.le_refl _) ?_); intro w1 hown hgrow))
  obtain ⟨g, hg⟩ : ∃ g, g = w'.heap.size := ⟨_, rfl⟩
  obtain ⟨n, hn⟩ : ∃ n, n = szs xs := ⟨_, rfl⟩
  rw [← hg, ← hn] at hown
  rw [← hg, ← hn]
  have HN : Hid (n = (encs xs).length) := by show _ = _; omega
  have hn2 : n ≤ 10995116277760 := by omega
  have hfl : Filling w1 g g n 0 (encs (xs.take 0)) := ⟨rfl, hown⟩
  have hbel : Below w'.heap.size w' w1 := (Below.refl _ _).grown hgrow (Nat.le_refl _) (fun k hk => by cases hk)
  have HG : Hid (g = w'.heap.size) := hg
  clear hown hgrow hg hn HE hsz
  go_loopw [3, 11] (fun b i wr => ∃ k m : Nat, k ≤ len ∧ i = .int .i64 k ∧ b = .slice (some ⟨g, 0, none⟩) m n ∧ Filling wr g g n m (encs (xs.take k)) ∧ Below w'.heap.size w' wr) (fun _ i _ => len - (intOf i).toNat)
  case atStart => exact ⟨0, 0, Nat.zero_le _, rfl, rfl, hfl, hbel⟩
  case round =>
    obtain ⟨k, m, hk, rfl, rfl, hf, hb⟩ := hrel
    clear hfl hbel
    have HF : Hid (Filling wr g g n m (encs (xs.take k))) := hf
    have HB : Hid (Below w'.heap.size w' wr) := hb
    clear hf hb
    by_cases hlt : k < len
    · rcases HS.out.2 with h0 | ⟨b, off, rfl, hbw, hc⟩
      · omega
      · have hcell : wr.cell? ⟨b, off + k, none⟩ = some (.int .u64 (xs[k]?.getD 0)) := (HB.out.cell (p := ⟨b, off + k, none⟩) hbw).trans (hc k hlt)
        have hxk := HX.out k (by rw [HS.out.1]; exact hlt)
        obtain ⟨V0, hV0⟩ : ∃ V : Int, xs[k]?.getD 0 = V := ⟨_, rfl⟩
        rw [hV0] at hcell hxk
        have HV : Hid (encs (xs.take (k + 1)) = encs (xs.take k) ++ enc V0.toNat) := by
          show _ = _
          rw [take_snoc xs k (by rw [HS.out.1]; exact hlt), encs_snoc, hV0]
        have HM : Hid ((encs (xs.take (k + 1))).length ≤ n) := by show _ ≤ _; rw [HN.out]; exact encs_take_le xs (k + 1)
        clear hc hV0
        go_wp2
        go_loopw [3, 5] (fun b v wr2 => ∃ (V : Int) (m2 : Nat) (D : List Int), v = .int .u64 V ∧ (0 ≤ V ∧ V < 18446744073709551616) ∧ b = .slice (some ⟨g, 0, none⟩) m2 n ∧ enc V0.toNat = D ++ enc V.toNat ∧ Filling wr2 g g n m2 (encs (xs.take k) ++ D) ∧ Below w'.heap.size w' wr2) (fun _ v _ => (intOf v).toNat)
        case atStart => exact ⟨V0, m, [], rfl, hxk, rfl, rfl, by rw [List.append_nil]; exact HF.out, HB.out⟩
        case round =>
          obtain ⟨V, m2, D, rfl, hV, rfl, hD, hf2, hb2⟩ := hrel
          have HD : Hid (enc V0.toNat = D ++ enc V.toNat) := hD
          have HF2 : Hid (Filling wr g g n m2 (encs (xs.take k) ++ D)) := hf2
          have HB2 : Hid (Below w'.heap.size w' wr) := hb2
          have hroom : m2 + 1 ≤ n := by
            have h1 := HM.out
            have h2 := enc_pos V.toNat
            have h3 := hf2.1
            rw [HV.out, hD] at h1
            simp only [List.length_append] at h1 h3
            omega
          clear hD hf2 hb2 hcell
          by_cases h128 : 128 ≤ V
          · have hor := or_128 V
            go_wp2_with (at_builtin; go_must (refine wpList_append_fits _ rfl (.tmp 19) (.tmp 23) 27 rfl g 5 i0 1 Tryd.underlying27 hi hz1 g m2 n _ rfl (HF2.out.2.alloc _) ⟨wr.heap.size, 0, none⟩ 1 1 [.int .u8 (V % 128 + 128)] rfl rfl (one_new wr _ _) (one_one _ _) hroom ?_); intro w2 hown hgrow)
            have HF3 : Hid (Filling w2 g g n (m2 + 1) ((encs (xs.take k) ++ D) ++ [V % 128 + 128])) := Filling.push HF2.out.1 hown
            have HB3 : Hid (Below w'.heap.size w' w2) := (HB2.out.alloc HB2.out.size _).grown hgrow (by have := HB2.out.size; simp; omega) (fun k hk => by cases hk; rw [HG.out]; exact Nat.le_refl _)
            clear hown hgrow
            go_wp2
            go_roundw
            case rel =>
              go_light
              refine ⟨V / 128, m2 + 1, D ++ [V % 128 + 128], rfl, by omega, rfl, ?_, by rw [← List.append_assoc]; exact HF3.out, HB3.out⟩
              rw [HD.out, enc_big (by omega), List.append_assoc]
              rw [show V.toNat / 128 = (V / 128).toNat from by omega, show ((V.toNat % 128 + 128 : Nat) : Int) = V % 128 + 128 from by omega]
              rfl
            case measure => simp [intOf]; omega
          · have hm : V % 256 = V := by omega
            go_wp2_with (at_builtin; go_must (refine wpList_append_fits _ rfl (.tmp 25) (.tmp 28) 27 rfl g 5 i0 1 Tryd.underlying27 hi hz1 g m2 n _ rfl (HF2.out.2.alloc _) ⟨wr.heap.size, 0, none⟩ 1 1 [.int .u8 V] rfl rfl (one_new wr _ _) (one_one _ _) hroom ?_); intro w2 hown hgrow)
            have HF3 : Hid (Filling w2 g g n (m2 + 1) (encs (xs.take (k + 1)))) := by
              have := Filling.push HF2.out.1 hown
              show Filling _ _ _ _ _ _
              rw [HV.out, HD.out, enc_small (by omega), ← List.append_assoc, Int.toNat_of_nonneg hV.1]
              exact this
            have HB3 : Hid (Below w'.heap.size w' w2) := (HB2.out.alloc HB2.out.size _).grown hgrow (by have := HB2.out.size; simp; omega) (fun k hk => by cases hk; rw [HG.out]; exact Nat.le_refl _)
            clear hown hgrow
            go_wp2
            go_roundw
            case rel => exact ⟨k + 1, m2 + 1, by omega, by go_num, rfl, HF3.out, HB3.out⟩
            case measure => simp [intOf]; omega
    · obtain rfl : k = len := by omega
      have ht : xs.take k = xs := List.take_of_length_le (by rw [HS.out.1]; exact Nat.le_refl _)
      have HF3 : Hid (Filling wr g g n m (encs xs)) := by have := HF.out; rw [ht] at this; exact this
      have HM : Hid (m = n) := by show _ = _; rw [HF3.out.1, HN.out]
      clear ht
      go_wp2
      go_ret
      go_light
      refine ⟨g, n, by rw [HM.out]; rfl, HN.out, by rw [HG.out]; exact Nat.le_refl _, ?_, HB.out⟩
      have h2 := HF3.out.2
      rw [HM.out] at h2
      exact row_of_own (encs xs) h2 rfl
end Go.Proofs.YtcdgfghcmeadgaaDoor
namespace Go.Proofs.YtcdgfghcmeadgaaDoor
open Go.RowKit
set_option linter.unusedVariables false

/-- A slice of bytes as a string. -/
theorem seg_string {P : Program} {w : World} {a : Option Addr} {len : Nat} {xs : List Int} (src dst e : TypeId) (cap : Nat) (h : Seg .u8 w a len xs) (hs : P.underlying src = some (.slice e)) (he : P.underlying e = some (.int .u8)) (hd : P.underlying dst = some .string) :
    (convert src dst (.slice a len cap)).run P w = .ok (.string (strOfNums xs)) w := by
  rcases h.2 with rfl | ⟨b, off, rfl, _, hc⟩
  · obtain rfl : xs = [] := List.eq_nil_of_length_eq_zero h.1
    cases a with
    | none => exact run_convert_bytes_nil w src e hs he 0 cap dst hd
    | some ad =>
      rw [run_convert_bytes_string w src dst e _ 0 cap hs he hd, run_bytesToString w ad 0 cap [] (run_loadCells_list (P := P) w ad [] (fun j v hj => by simp at hj))]
      rfl
  · exact run_convert_bytes_arg w src e hs he b off len cap xs h.1 (fun i hi => by rw [hc i hi]; simp) dst hd
theorem strOfNums_inj {xs ys : List Int} (hx : Bytes xs) (hy : Bytes ys) (h : strOfNums xs = strOfNums ys) : xs = ys := by
  have h1 : xs.map (fun n => UInt8.ofNat n.toNat) = ys.map (fun n => UInt8.ofNat n.toNat) := by
    rw [← strOfNums_data, ← strOfNums_data, h]
  have hl : xs.length = ys.length := by simpa using congrArg List.length h1
  apply List.ext_getElem hl
  intro i i1 i2
  have h2 := congrArg (fun l => l[i]?) h1
  simp [i1, i2] at h2
  have a := hx i i1
  have b := hy i i2
  simp [i1] at a
  simp [i2] at b
  have h3 := congrArg UInt8.toNat h2
  simp [UInt8.toNat_ofNat'] at h3
  omega
theorem str_eq {xs ys : List Int} (hx : Bytes xs) (hy : Bytes ys) : ((strOfNums xs).toList == (strOfNums ys).toList) = decide (xs = ys) := by
  by_cases h : xs = ys
  · subst h; simp
  · have : (strOfNums xs).toList ≠ (strOfNums ys).toList := fun e => h (strOfNums_inj hx hy (by
      rw [ByteArray.toList_eq, ByteArray.toList_eq] at e
      exact Go.WideShapes.bytes_inj e))
    simp [h, this]

end Go.Proofs.YtcdgfghcmeadgaaDoor
namespace Go.Proofs.YtcdgfghcmeadgaaDoor
open Go.RowKit
set_option linter.unusedVariables false

/-- What is laid down behind what was, if there is no error yet. -/
def wadd (e : Int) (ys zs : List Int) : List Int := if e = 0 then ys ++ zs else ys
/-- The first error stays. -/
def ferr (e x : Int) : Int := if e = 0 then x else e
/-- The error of a number that does not fit. -/
def wie (v most : Int) : Int := if v < 0 ∨ most < 0 then 1 else if most < v then 31 else 0
/-- The error of a text that does not fit. -/
def wte (n : Nat) (most : Int) : Int := if most < 0 then 1 else if most < n then 31 else 0
/-- A yes or no as a byte. -/
def fb (f : Bool) : Int := if f then 1 else 0
/-- A text's bytes. -/
def sb (s : ByteArray) : List Int := s.data.toList.map fun c => (c.toNat : Int)
theorem sb_length (s : ByteArray) : (sb s).length = s.size := by simp [sb]
theorem sb_bytes (s : ByteArray) : Bytes (sb s) := bytes_of_mem (fun c hc => by
  obtain ⟨u, _, rfl⟩ := List.mem_map.1 hc
  have := u.toNat_lt
  omega)
theorem str_sb (s : ByteArray) : strOfNums (sb s) = s := by
  have h : (strOfNums (sb s)).data.toList = s.data.toList := by
    rw [strOfNums_data]
    simp only [sb, List.map_map]
    conv => rhs; rw [← List.map_id s.data.toList]
    apply List.map_congr_left
    intro u _
    simp
  cases s with
  | mk d =>
    have h2 : (strOfNums (sb ⟨d⟩)).data = d := by
      apply Array.ext'
      exact h
    cases h3 : strOfNums (sb ⟨d⟩)
    rw [h3] at h2
    rw [← h2]
theorem wadd_err {e : Int} (he : e ≠ 0) (ys zs : List Int) : wadd e ys zs = ys := by rw [wadd, if_neg he]
theorem ferr_zero (e : Int) : ferr e 0 = e := by unfold ferr; split <;> omega

theorem wrap_u64_bd (x : Int) : 0 ≤ IntKind.u64.wrap x ∧ IntKind.u64.wrap x < 18446744073709551616 := by
  rw [IntKind.wrap_u64]; omega
theorem enc_leN (n : Nat) (h0 : n < 18446744073709551616) : (enc n).length ≤ 10 := by
  rw [enc_length _ h0]; exact (sz_bd _).2
end Go.Proofs.YtcdgfghcmeadgaaDoor
namespace Go.Proofs.YtcdgfghcmeadgaaDoor
open Go.RowKit
set_option linter.unusedVariables false

set_option maxRecDepth 20000 in
theorem wready_c (g : Nat) (e : Int) (w : World) (h : w.cell? ⟨g, 0, none⟩ = some (.int .i64 e)) :
    Calls Tryd.prog 71 #[.pointer (some ⟨g, 0, none⟩)] w fun r w' => r = .returned (.bool (e == 0)) ∧ w' = w := by
  go_enter Tryd.func71, Tryd.ntmps71
  go_wp2_with fail
  refine (well_c g e w h).mono ?_
  rintro r w1 ⟨rfl, rfl⟩
  go_wp2
  go_ret
  exact ⟨rfl, rfl⟩

theorem WGoes.err {w g ys e fs} (h : WS w g ys e fs) (x : Int) : WGoes w g fs (w.setCell ⟨g, 0, none⟩ (.int .i64 x)) ys x :=
  ⟨fs, h.setE x, Gr.of (grownBy_cell w g 0 _) (fun k hk => by cases hk; exact .inl rfl), fun k hk => .inl hk⟩
theorem WGoes.pre {w w1 w2 : World} {g fs ys e} (h : w.grownBy w1 none) (k : WGoes w1 g fs w2 ys e) : WGoes w g fs w2 ys e := by
  obtain ⟨f2, h2, g2, l2⟩ := k
  refine ⟨f2, h2, (Gr.of h (by simp)).trans g2, fun j hj => ?_⟩
  rcases l2 j hj with h' | h'
  · exact .inl h'
  · exact .inr (Nat.le_trans h.size h')

theorem encs_one (V : Int) : encs [V] = enc V.toNat := by simp [encs]
set_option maxRecDepth 20000 in
theorem wuint_c (g : Nat) (ys : List Int) (e V : Int) (fs : List Nat) (w : World) (h : WS w g ys e fs) (h0 : 0 ≤ V) (h1 : V < 18446744073709551616) (hb : ys.length + 10 ≤ 140737488355328) :
    Calls Tryd.prog 73 #[.pointer (some ⟨g, 0, none⟩), .int .u64 V] w fun r w' => r = .returned (.tuple #[]) ∧ WGoes w g fs w' (wadd e ys (enc V.toNat)) e := by
  have HW : Hid (WS w g ys e fs) := h
  have HR : Hid (Calls Tryd.prog 71 #[.pointer (some ⟨g, 0, none⟩)] w fun r w' => r = .returned (.bool (e == 0)) ∧ w' = w) := wready_c g e w h.c0
  by_cases he : e = 0
  · subst he
    rw [show wadd 0 ys (enc V.toNat) = ys ++ enc V.toNat from rfl]
    have HL : Hid (∀ w n a cap, WS w g ys 0 fs → Seg .u8 w (some ⟨a, 0, none⟩) n (enc V.toNat) → a ≠ g → n ≤ 10 → Calls Tryd.prog 103 #[.pointer (some ⟨g, 0, none⟩), .slice (some ⟨a, 0, none⟩) n cap] w fun r w' => r = .returned (.tuple #[]) ∧ WGoes w g fs w' (ys ++ enc V.toNat) 0) := fun w n a cap h hs hn hl => lay_c g ys _ 0 fs _ n cap w h hs (fun b o s e => by cases e; exact hn) (fun h => by cases h) (bytes_of_mem (enc_bytes _)) (by omega)
    have HEL : Hid ((enc V.toNat).length ≤ 10) := by
      show _ ≤ _
      rw [enc_length _ (by omega)]
      exact (sz_bd _).2
    have HC : Hid (∀ w (a : Nat) cap, Seg .u64 w (some ⟨a, 0, none⟩) 1 [V] → Calls Tryd.prog 104 #[.slice (some ⟨a, 0, none⟩) 1 cap] w fun e w' => ∃ g n, e = .returned (.slice (some ⟨g, 0, none⟩) n n) ∧ n = (enc V.toNat).length ∧ w.heap.size ≤ g ∧ Row .u8 5 w' g (enc V.toNat) ∧ Below w.heap.size w w') := fun w a cap hs => by
      have := encode_c _ 1 cap [V] w hs (fun i hi => by simp at hi; subst hi; exact ⟨h0, h1⟩) (by omega)
      rw [encs_one] at this
      exact this
    obtain ⟨zs, hzs⟩ : ∃ zs, zs = enc V.toNat := ⟨_, rfl⟩
    rw [← hzs] at HC HEL HL ⊢
    clear h hb h0 h1 hzs
    go_enter Tryd.func73, Tryd.ntmps73
    go_wp2_with fail
    refine Calls.mono HR.out ?_
    rintro r w1 ⟨rfl, rfl⟩
    go_wp2_with fail
    have hrow : Row .u64 126 (w1.alloc (Obj.cells #[.int .u64 V] 126)) w1.heap.size [V] := heap_new w1 _
    refine (HC.out _ w1.heap.size 1 (hrow.segAll 1 rfl)).mono ?_
    rintro _ w2 ⟨g2, n2, rfl, hn2, hg2, hr2, hb2⟩
    have hgb : w1.grownBy w2 none := gb_trans (World.grownBy_alloc w1 _ none) (grownBy_below hb2 _)
    have hs2 : w1.heap.size ≤ g2 := Nat.le_trans (World.grownBy_alloc w1 (Obj.cells #[.int .u64 V] 126) none).size hg2
    have H2 : Hid (WS w2 g ys 0 fs ∧ Seg .u8 w2 (some ⟨g2, 0, none⟩) n2 zs ∧ g2 ≠ g ∧ n2 ≤ 10 ∧ w1.grownBy w2 none) := ⟨HW.out.new hgb, hr2.segAll n2 hn2, (fun e => by have := HW.out.lt; omega), hn2 ▸ HEL.out, hgb⟩
    clear hrow hn2 hg2 hr2 hb2 hgb hs2
    go_wp2_with fail
    refine (HL.out w2 n2 g2 n2 H2.out.1 H2.out.2.1 H2.out.2.2.1 H2.out.2.2.2.1).mono ?_
    rintro _ w3 ⟨rfl, h3⟩
    have H3 : Hid (WGoes w1 g fs w3 (ys ++ zs) 0) := h3.pre H2.out.2.2.2.2
    clear h3
    go_wp2
    go_end0
    exact ⟨rfl, H3.out⟩
  · have hbq : (e == 0) = false := by simp [he]
    have HE : Hid (wadd e ys (enc V.toNat) = ys) := by show _ = _; rw [wadd, if_neg he]
    rw [HE.out]
    rw [hbq] at HR
    clear he HE h hb h0 h1
    go_enter Tryd.func73, Tryd.ntmps73
    go_wp2_with fail
    refine Calls.mono HR.out ?_
    rintro r w1 ⟨rfl, rfl⟩
    go_wp2
    go_end0
    exact ⟨rfl, HW.out.stay⟩

end Go.Proofs.YtcdgfghcmeadgaaDoor
namespace Go.Proofs.YtcdgfghcmeadgaaDoor
open Go.RowKit
set_option linter.unusedVariables false

set_option maxRecDepth 20000 in
set_option maxHeartbeats 800000 in
theorem wint_c (g : Nat) (ys : List Int) (e x most : Int) (fs : List Nat) (w : World) (h : WS w g ys e fs) (hx : x ≤ 9223372036854775807) (hb : ys.length + 10 ≤ 140737488355328) :
    Calls Tryd.prog 38 #[.pointer (some ⟨g, 0, none⟩), .int .i64 x, .int .i64 most] w fun r w' => r = .returned (.tuple #[]) ∧ WGoes w g fs w' (wadd (ferr e (wie x most)) ys (enc x.toNat)) (ferr e (wie x most)) := by
  have HW : Hid (WS w g ys e fs) := h
  have HR : Hid (Calls Tryd.prog 71 #[.pointer (some ⟨g, 0, none⟩)] w fun r w' => r = .returned (.bool (e == 0)) ∧ w' = w) := wready_c g e w h.c0
  by_cases he : e = 0
  · subst he
    have c0 := h.c0
    have f0 := h.free 0
    have HM1 : Hid (∀ (x : Int) (b : Bool), (x == 0) = false → b = false → Calls Tryd.prog 72 #[.pointer (some ⟨g, 0, none⟩), .bool b, .int .i64 x] w fun r w' => r = .returned (.bool false) ∧ w'.cell? ⟨g, 0, none⟩ = some (.int .i64 x) ∧ WGoes w g fs w' ys x) := fun x b hx hb => by
      subst hb
      refine (must_ok g x w c0 f0 hx).mono ?_
      rintro r w' ⟨rfl, rfl⟩
      exact ⟨rfl, (h.setE x).c0, WGoes.err h x⟩
    have HM2 : Hid (∀ (x : Int) (b : Bool), b = true → Calls Tryd.prog 72 #[.pointer (some ⟨g, 0, none⟩), .bool b, .int .i64 x] w fun r w' => r = .returned (.bool true) ∧ w' = w) := fun x b hb => by subst hb; exact must_so g 0 x w c0
    have HM3 : Hid (∀ (w : World) (b : Bool), w.cell? ⟨g, 0, none⟩ = some (.int .i64 1) → Calls Tryd.prog 72 #[.pointer (some ⟨g, 0, none⟩), .bool b, .int .i64 31] w fun r w' => r = .returned (.bool false) ∧ w' = w) := fun w b h => by
      cases b with
      | true => exact must_so g 1 31 w h
      | false => exact must_no g 1 31 w h (by decide)
    clear c0 f0
    by_cases h0 : x < 0 ∨ most < 0
    · rw [show ferr 0 (wie x most) = 1 from by rw [ferr, if_pos rfl, wie, if_pos h0], wadd_err (by decide)]
      clear h hb
      by_cases h1 : x < 0
      · have hn : ¬ (0 ≤ x) := by omega
        clear h0 h1
        go_enter Tryd.func38, Tryd.ntmps38
        go_wp2_with fail
        refine Calls.mono HR.out ?_
        rintro r w1 ⟨rfl, rfl⟩
        go_wp2_with fail
        refine (HM1.out 1 _ (by decide) ?_).mono ?_
        · first | rfl | (simp; omega)
        rintro _ w2 ⟨rfl, hc2, h2⟩
        replace hc2 : Hid _ := hc2
        replace h2 : Hid _ := h2
        go_wp2_with fail
        refine (HM3.out w2 _ hc2.out).mono ?_
        rintro _ w3 ⟨rfl, rfl⟩
        go_wp2
        go_end0
        exact ⟨rfl, h2.out⟩
      · have hp : 0 ≤ x := by omega
        have hn : ¬ (0 ≤ most) := by omega
        clear h0 h1
        go_enter Tryd.func38, Tryd.ntmps38
        go_wp2_with fail
        refine Calls.mono HR.out ?_
        rintro r w1 ⟨rfl, rfl⟩
        go_wp2_with fail
        refine (HM1.out 1 _ (by decide) ?_).mono ?_
        · first | rfl | (simp; omega)
        rintro _ w2 ⟨rfl, hc2, h2⟩
        replace hc2 : Hid _ := hc2
        replace h2 : Hid _ := h2
        go_wp2_with fail
        refine (HM3.out w2 _ hc2.out).mono ?_
        rintro _ w3 ⟨rfl, rfl⟩
        go_wp2
        go_end0
        exact ⟨rfl, h2.out⟩
    · have hp : 0 ≤ x := by omega
      have hq : 0 ≤ most := by omega
      by_cases h2 : x ≤ most
      · rw [show ferr 0 (wie x most) = 0 from by rw [ferr, if_pos rfl, wie, if_neg h0, if_neg (by omega)]]
        have HU : Hid (∀ z, z = x → Calls Tryd.prog 73 #[.pointer (some ⟨g, 0, none⟩), .int .u64 z] w fun r w' => r = .returned (.tuple #[]) ∧ WGoes w g fs w' (wadd 0 ys (enc x.toNat)) 0) := fun z hz => by rw [hz]; exact wuint_c g ys 0 x fs w h hp (by omega) hb
        obtain ⟨Y, hY⟩ : ∃ Y, Y = wadd 0 ys (enc x.toNat) := ⟨_, rfl⟩
        rw [← hY] at HU ⊢
        clear h hb h0 hY
        go_enter Tryd.func38, Tryd.ntmps38
        go_wp2_with fail
        refine Calls.mono HR.out ?_
        rintro r w1 ⟨rfl, rfl⟩
        go_wp2_with fail
        refine (HM2.out 1 _ ?_).mono ?_
        · first | rfl | (simp; omega)
        rintro _ w2 ⟨rfl, rfl⟩
        go_wp2_with fail
        refine (HM2.out 31 _ ?_).mono ?_
        · first | rfl | (simp; omega)
        rintro _ w3 ⟨rfl, rfl⟩
        go_wp2_with fail
        refine (HU.out _ ?_).mono ?_
        · first | rfl | (rw [IntKind.wrap_u64]; omega)
        rintro _ w4 ⟨rfl, h4⟩
        replace h4 : Hid _ := h4
        go_wp2
        go_end0
        exact ⟨rfl, h4.out⟩
      · rw [show ferr 0 (wie x most) = 31 from by rw [ferr, if_pos rfl, wie, if_neg h0, if_pos (by omega)], wadd_err (by decide)]
        clear h hb h0
        go_enter Tryd.func38, Tryd.ntmps38
        go_wp2_with fail
        refine Calls.mono HR.out ?_
        rintro r w1 ⟨rfl, rfl⟩
        go_wp2_with fail
        refine (HM2.out 1 _ ?_).mono ?_
        · first | rfl | (simp; omega)
        rintro _ w2 ⟨rfl, rfl⟩
        go_wp2_with fail
        refine (HM1.out 31 _ (by decide) ?_).mono ?_
        · first | rfl | (simp; omega)
        rintro _ w3 ⟨rfl, _, h3⟩
        replace h3 : Hid _ := h3
        go_wp2
        go_end0
        exact ⟨rfl, h3.out⟩
  · have hbq : (e == 0) = false := by simp [he]
    have HE : Hid (ferr e (wie x most) = e) := by show _ = _; rw [ferr, if_neg he]
    rw [HE.out, wadd_err he]
    rw [hbq] at HR
    clear he HE h hb
    go_enter Tryd.func38, Tryd.ntmps38
    go_wp2_with fail
    refine Calls.mono HR.out ?_
    rintro r w1 ⟨rfl, rfl⟩
    go_wp2
    first | go_end0 | (simp only [Exit.inBlock, Exit.then]; refine bodyPost_ret (results_none rfl _ _ _) rfl ?_) | refine bodyPost_ret (results_none rfl _ _ _) rfl ?_
    exact ⟨rfl, HW.out.stay⟩
end Go.Proofs.YtcdgfghcmeadgaaDoor
namespace Go.Proofs.YtcdgfghcmeadgaaDoor
open Go.RowKit
set_option linter.unusedVariables false

theorem bytesRow_size (s : ByteArray) (cap : Nat) (h : s.size ≤ cap) : (bytesRow s cap).size = cap := by
  unfold bytesRow
  rw [Array.size_append, Array.size_map, Array.size_replicate]
  have e : s.data.size = s.size := rfl
  omega
theorem strOfNums_at (xs : List Int) (hx : Bytes xs) (cap i : Nat) (hi : i < xs.length) : (bytesRow (strOfNums xs) cap)[i]? = some (.int .u8 (xs[i]?.getD 0)) := by
  rw [bytesRow_at _ _ _ (by simpa [strOfNums] using hi)]
  have := hx i hi
  simp [hi] at this
  simp [strOfNums, hi, UInt8.toNat_ofNat']
  omega

end Go.Proofs.YtcdgfghcmeadgaaDoor
namespace Go.Proofs.YtcdgfghcmeadgaaDoor
open Go.RowKit
set_option linter.unusedVariables false

/-- A string as bytes of one's own. -/
theorem str_bytes (s : ByteArray) (w : World) (hl : s.size ≤ 140737488355328) : ∃ W C, (convert 9 27 (.string s)).run Tryd.prog w = .ok (.slice (some ⟨w.heap.size, 0, none⟩) s.size C) W ∧ Mine W w.heap.size w.heap.size s.size C (sb s) ∧ Below w.heap.size w W := by
  have r2 := run_bytes_of_string (P := Tryd.prog) w 9 27 5 s Tryd.underlying9 Tryd.underlying27 Tryd.underlying5
  obtain ⟨C, hC⟩ : ∃ C, C = grownCap w s.size 0 5 := ⟨_, rfl⟩
  have hge : s.size ≤ C := by rw [hC]; exact grownCap_ge _ _ _ _
  have hmx : C ≤ maxLen := by rw [hC]; exact grownCap_le_maxLen _ _ _ _ (by unfold maxLen; omega)
  rw [← hC, bytesRow_size _ _ hge] at r2
  refine ⟨_, C, r2, ?_, (Below.refl _ _).drew.alloc (Nat.le_refl _) _⟩
  have hcl : ∀ i, (w.drew.alloc (.cells (bytesRow s C) 5 (C, C + 1))).cell? ⟨w.heap.size, i, none⟩ = (bytesRow s C)[i]? := fun i => World.cell?_alloc_mark w.drew _ _ _ i
  refine ⟨sb_length s, hge, hmx, Nat.le_refl _, by simp, fun i hi => ?_, fun i hi => ?_, fun i hi => ?_⟩
  · rw [hcl]
    have := strOfNums_at (sb s) (sb_bytes s) C i (by rw [sb_length]; exact hi)
    rw [str_sb] at this
    exact this
  · rw [hcl]
    simp [bytesRow_size _ _ hge, hi]
  · have := World.frozen?_alloc_mark w.drew (bytesRow s C) 5 C (C + 1) i
    refine Eq.trans this ?_
    simp; omega
theorem Mine.later {w w' : World} {B b n cap : Nat} {xs : List Int} (h : Mine w B b n cap xs) (hb : Below w.heap.size w w') : Mine w' B b n cap xs := h.keep hb h.lt
end Go.Proofs.YtcdgfghcmeadgaaDoor
namespace Go.Proofs.YtcdgfghcmeadgaaDoor
open Go.RowKit
set_option linter.unusedVariables false

/-- The three ways of must, of a Writer. -/
theorem wmust_no (g : Nat) (ys : List Int) (fs : List Nat) (w : World) (h : WS w g ys 0 fs) (x : Int) (b : Bool) (hx : (x == 0) = false) (hb : b = false) :
    Calls Tryd.prog 72 #[.pointer (some ⟨g, 0, none⟩), .bool b, .int .i64 x] w fun r w' => r = .returned (.bool false) ∧ w'.cell? ⟨g, 0, none⟩ = some (.int .i64 x) ∧ WGoes w g fs w' ys x := by
  subst hb
  refine (must_ok g x w h.c0 (h.free 0) hx).mono ?_
  rintro r w' ⟨rfl, rfl⟩
  exact ⟨rfl, (h.setE x).c0, WGoes.err h x⟩
theorem wmust_so (g : Nat) (ys : List Int) (fs : List Nat) (w : World) (h : WS w g ys 0 fs) (x : Int) (b : Bool) (hb : b = true) :
    Calls Tryd.prog 72 #[.pointer (some ⟨g, 0, none⟩), .bool b, .int .i64 x] w fun r w' => r = .returned (.bool true) ∧ w' = w := by
  subst hb; exact must_so g 0 x w h.c0
theorem wmust_late (g : Nat) (w : World) (e x : Int) (b : Bool) (he : (e == 0) = false) (h : w.cell? ⟨g, 0, none⟩ = some (.int .i64 e)) :
    Calls Tryd.prog 72 #[.pointer (some ⟨g, 0, none⟩), .bool b, .int .i64 x] w fun r w' => r = .returned (.bool false) ∧ w' = w := by
  cases b with
  | true => have := must_so g e x w h; rw [he] at this; exact this
  | false => exact must_no g e x w h he

set_option maxRecDepth 20000 in
set_option maxHeartbeats 800000 in
theorem wtext_c (g : Nat) (ys : List Int) (e : Int) (s : ByteArray) (most : Int) (fs : List Nat) (w : World) (h : WS w g ys e fs) (hs : s.size ≤ 1125899906842) (hb : ys.length + s.size + 10 ≤ 140737488355328) :
    Calls Tryd.prog 75 #[.pointer (some ⟨g, 0, none⟩), .string s, .int .i64 most] w fun r w' => r = .returned (.tuple #[]) ∧ WGoes w g fs w' (wadd (ferr e (wte s.size most)) ys (enc s.size ++ sb s)) (ferr e (wte s.size most)) := by
  have HW : Hid (WS w g ys e fs) := h
  have HR : Hid (Calls Tryd.prog 71 #[.pointer (some ⟨g, 0, none⟩)] w fun r w' => r = .returned (.bool (e == 0)) ∧ w' = w) := wready_c g e w h.c0
  obtain ⟨S, hS⟩ : ∃ S, S = s.size := ⟨_, rfl⟩
  have hsS : s.size = S := hS.symm
  rw [hsS] at hs hb ⊢
  clear hS
  by_cases he : e = 0
  · subst he
    have HM1 : Hid (∀ (x : Int) (b : Bool), (x == 0) = false → b = false → Calls Tryd.prog 72 #[.pointer (some ⟨g, 0, none⟩), .bool b, .int .i64 x] w fun r w' => r = .returned (.bool false) ∧ w'.cell? ⟨g, 0, none⟩ = some (.int .i64 x) ∧ WGoes w g fs w' ys x) := wmust_no g ys fs w h
    have HM2 : Hid (∀ (x : Int) (b : Bool), b = true → Calls Tryd.prog 72 #[.pointer (some ⟨g, 0, none⟩), .bool b, .int .i64 x] w fun r w' => r = .returned (.bool true) ∧ w' = w) := wmust_so g ys fs w h
    by_cases h0 : most < 0
    · rw [show ferr 0 (wte S most) = 1 from by rw [ferr, if_pos rfl, wte, if_pos h0], wadd_err (by decide)]
      clear h hb
      go_enter Tryd.func75, Tryd.ntmps75
      go_wp2_with fail
      refine Calls.mono HR.out ?_
      rintro r w1 ⟨rfl, rfl⟩
      go_wp2_with fail
      refine (HM1.out 1 _ (by decide) ?_).mono ?_
      · first | rfl | (simp; omega)
      rintro _ w2 ⟨rfl, hc2, h2⟩
      replace hc2 : Hid _ := hc2
      replace h2 : Hid _ := h2
      go_wp2_with fail
      refine (wmust_late g w2 1 31 _ (by decide) hc2.out).mono ?_
      rintro _ w3 ⟨rfl, rfl⟩
      go_wp2
      go_end0
      exact ⟨rfl, h2.out⟩
    · by_cases h2 : (S : Int) ≤ most
      · rw [show ferr 0 (wte S most) = 0 from by rw [ferr, if_pos rfl, wte, if_neg h0, if_neg (by omega)]]
        rw [show wadd 0 ys (enc S ++ sb s) = ys ++ enc S ++ sb s from (List.append_assoc _ _ _).symm]
        have HEL : Hid ((enc S).length ≤ 10) := by
          show _ ≤ _
          rw [enc_length _ (by omega)]
          exact (sz_bd _).2
        have HU : Hid (∀ z : Int, z = (S : Int) → Calls Tryd.prog 73 #[.pointer (some ⟨g, 0, none⟩), .int .u64 z] w fun r w' => r = .returned (.tuple #[]) ∧ WGoes w g fs w' (ys ++ enc S) 0) := fun z hz => by
          have := wuint_c g ys 0 (S : Int) fs w h (by omega) (by omega) (by omega)
          rw [Int.toNat_natCast] at this
          rw [hz]; exact this
        have HL : Hid (∀ w n a cap fs, WS w g (ys ++ enc S) 0 fs → Seg .u8 w (some ⟨a, 0, none⟩) n (sb s) → a ≠ g → Calls Tryd.prog 103 #[.pointer (some ⟨g, 0, none⟩), .slice (some ⟨a, 0, none⟩) n cap] w fun r w' => r = .returned (.tuple #[]) ∧ WGoes w g fs w' (ys ++ enc S ++ sb s) 0) := fun w n a cap fs h hsg hn => lay_c g _ _ 0 fs _ n cap w h hsg (fun b o s e => by cases e; exact hn) (fun h => by cases h) (sb_bytes s) (by
          have := hsg.1
          rw [sb_length, hsS] at this
          have := HEL.out
          rw [List.length_append]; omega)
        obtain ⟨Y1, hY1⟩ : ∃ Y1, Y1 = ys ++ enc S := ⟨_, rfl⟩
        obtain ⟨Y2, hY2⟩ : ∃ Y2, Y2 = ys ++ enc S ++ sb s := ⟨_, rfl⟩
        rw [← hY2] at HL ⊢
        rw [← hY1] at HU HL
        clear h hb hY1 hY2
        go_enter Tryd.func75, Tryd.ntmps75
        go_wp2_with fail
        refine Calls.mono HR.out ?_
        rintro r w1 ⟨rfl, rfl⟩
        go_wp2_with fail
        refine (HM2.out 1 _ ?_).mono ?_
        · first | rfl | (simp; omega)
        rintro _ w2 ⟨rfl, rfl⟩
        go_wp2_with fail
        refine (HM2.out 31 _ ?_).mono ?_
        · first | rfl | (simp; omega)
        rintro _ w3 ⟨rfl, rfl⟩
        go_wp2_with fail
        refine (HU.out _ ?_).mono ?_
        · first | rfl | (rw [IntKind.wrap_u64]; omega)
        rintro _ w4 ⟨rfl, h4⟩
        obtain ⟨W5, C, hcv, hM5, hB5⟩ := str_bytes s w4 (by rw [hsS]; omega)
        rw [hsS] at hcv hM5
        have H4 : Hid (WGoes w3 g fs w4 Y1 0) := h4
        have H5 : Hid (Mine W5 w4.heap.size w4.heap.size S C (sb s) ∧ Below w4.heap.size w4 W5) := ⟨hM5, hB5⟩
        clear hM5 hB5 h4
        go_wp2_with fail
        obtain ⟨f4, hw4, hg4, hl4⟩ := H4.out
        have hgb := grownBy_below H5.out.2 none
        refine (HL.out _ _ _ _ f4 (hw4.new hgb) H5.out.1.seg (fun e => by have := hw4.lt; omega)).mono ?_
        rintro _ w6 ⟨rfl, h6⟩
        have H6 : Hid (WGoes w3 g fs w6 Y2 0) := by
          obtain ⟨f6, a6, b6, c6⟩ := h6.pre hgb
          refine ⟨f6, a6, hg4.trans b6, fun j hj => ?_⟩
          rcases c6 j hj with h | h
          · exact hl4 j h
          · exact .inr (Nat.le_trans hg4.size h)
        clear h6 hw4 hg4 hl4 hgb
        go_wp2
        go_end0
        exact ⟨rfl, H6.out⟩
      · rw [show ferr 0 (wte S most) = 31 from by rw [ferr, if_pos rfl, wte, if_neg h0, if_pos (by omega)], wadd_err (by decide)]
        clear h hb
        go_enter Tryd.func75, Tryd.ntmps75
        go_wp2_with fail
        refine Calls.mono HR.out ?_
        rintro r w1 ⟨rfl, rfl⟩
        go_wp2_with fail
        refine (HM2.out 1 _ ?_).mono ?_
        · first | rfl | (simp; omega)
        rintro _ w2 ⟨rfl, rfl⟩
        go_wp2_with fail
        refine (HM1.out 31 _ (by decide) ?_).mono ?_
        · first | rfl | (simp; omega)
        rintro _ w3 ⟨rfl, _, h3⟩
        replace h3 : Hid _ := h3
        go_wp2
        go_end0
        exact ⟨rfl, h3.out⟩
  · have hbq : (e == 0) = false := by simp [he]
    have HE : Hid (ferr e (wte S most) = e) := by show _ = _; rw [ferr, if_neg he]
    rw [HE.out, wadd_err he]
    rw [hbq] at HR
    clear he HE h hb
    go_enter Tryd.func75, Tryd.ntmps75
    go_wp2_with fail
    refine Calls.mono HR.out ?_
    rintro r w1 ⟨rfl, rfl⟩
    go_wp2
    first | go_end0 | (simp only [Exit.inBlock, Exit.then]; refine bodyPost_ret (results_none rfl _ _ _) rfl ?_) | refine bodyPost_ret (results_none rfl _ _ _) rfl ?_
    exact ⟨rfl, HW.out.stay⟩
end Go.Proofs.YtcdgfghcmeadgaaDoor
namespace Go.Proofs.YtcdgfghcmeadgaaDoor
open Go.RowKit
set_option linter.unusedVariables false

theorem or_group (X c : Int) (k : Nat) (hk : k ≤ 9) (hX0 : 0 ≤ X) (hX : X < 2 ^ (7 * k)) (h0 : 0 ≤ c) (h1 : c < 128) (h9 : k = 9 → c ≤ 1) :
    bits .or .u64 X (IntKind.u64.wrap (c * 2 ^ (7 * k))) = X + 2 ^ (7 * k) * c := by
  have hp := pow_pos2 (7 * k)
  have hm : 0 ≤ c * 2 ^ (7 * k) := Int.mul_nonneg h0 (by omega)
  have hb : c * 2 ^ (7 * k) < 18446744073709551616 := by
    by_cases hk9 : k = 9
    · subst hk9
      have := h9 rfl
      have e : (2 : Int) ^ (7 * 9) = 9223372036854775808 := by decide
      rw [e]; omega
    · have hle : (2 : Int) ^ (7 * k) ≤ 2 ^ 56 := by
        have : (2 : Nat) ^ (7 * k) ≤ 2 ^ 56 := Nat.pow_le_pow_right (by omega) (by omega)
        exact_mod_cast this
      have e : (2 : Int) ^ 56 = 72057594037927936 := by decide
      have := Int.mul_le_mul (Int.le_of_lt h1) hle (by omega) (by omega)
      rw [e] at this
      omega
  have hX64 : X < 18446744073709551616 := by
    have hle : (2 : Int) ^ (7 * k) ≤ 2 ^ 63 := by
      have : (2 : Nat) ^ (7 * k) ≤ 2 ^ 63 := Nat.pow_le_pow_right (by omega) (by omega)
      exact_mod_cast this
    have e : (2 : Int) ^ 63 = 9223372036854775808 := by decide
    omega
  rw [u64_wrap_id _ hm hb]
  have e64 : (2 : Int) ^ 64 = 18446744073709551616 := by decide
  rw [bits_join_low .u64 64 (by decide) wraps_u64 (7 * k) X (c * 2 ^ (7 * k)) hX0 hX (by rw [e64]; exact hX64) hm (Int.mul_emod_left _ _) (by rw [e64]; exact hb), Int.mul_comm c]

theorem or_val (xs : List Int) (X : Int) (k : Nat) (hk : k < xs.length) (hk9 : k ≤ 9) (hX : X = val (xs.take k)) (h0 : 0 ≤ xs[k]?.getD 0) (h9 : k = 9 → xs[k]?.getD 0 % 128 ≤ 1) :
    bits .or .u64 X (IntKind.u64.wrap (xs[k]?.getD 0 % 128 * 2 ^ (7 * k))) = val (xs.take (k + 1)) := by
  have hln : (xs.take k).length = k := by simp; omega
  have hlt := val_lt (xs.take k)
  have hn := val_nonneg (xs.take k)
  rw [hln] at hlt
  rw [or_group X _ k hk9 (by omega) (by omega) (by omega) (by omega) h9, take_snoc xs k hk, val_snoc, hln, hX]

theorem ret3 {k1 k2 k3 : IntKind} {a b c a' b' c' : Int} (h1 : a = a') (h2 : b = b') (h3 : c = c') : Ending.returned (.tuple #[.int k1 a, .int k2 b, .int k3 c]) = .returned (.tuple #[.int k1 a', .int k2 b', .int k3 c']) := by rw [h1, h2, h3]
theorem ret3rd {k1 k2 k3 : IntKind} {xs : List Int} {a b c : Int} (h : rd xs = (a, b, c)) : Ending.returned (.tuple #[.int k1 a, .int k2 b, .int k3 c]) = .returned (.tuple #[.int k1 (rd xs).1, .int k2 (rd xs).2.1, .int k3 (rd xs).2.2]) := by rw [h]

set_option maxHeartbeats 2000000 in
theorem decode_c (a : Option Addr) (len cap : Nat) (xs : List Int) (w : World) (h : Seg .u8 w a len xs) (hx : Bytes xs) (hcap : len ≤ cap) (hl : cap ≤ 9223372036854775807) :
    Calls Tryd.prog 117 #[.slice a len cap] w fun e w' => e = .returned (.tuple #[.int .u64 (rd xs).1, .int .i64 (rd xs).2.1, .int .i64 (rd xs).2.2]) ∧ w' = w := by
  obtain ⟨hlen, h⟩ := h
  rcases h with rfl | ⟨b, off, rfl, hbw, hc⟩
  · obtain rfl : xs = [] := List.eq_nil_of_length_eq_zero hlen
    go_enter Tryd.func117, Tryd.ntmps117
    go_wp2
    refine wp_loop_rounds 1 ?_
    rw [rounds_succ]
    go_wp2
    go_ret3
    exact ⟨rfl, rfl⟩
  · obtain ⟨N, hN, hN10, HN⟩ : ∃ N : Nat, N ≤ len ∧ N ≤ 10 ∧ Hid (N = len ∨ N = 10) := ⟨min len 10, by omega, by omega, by show _ ∨ _; omega⟩
    by_cases h10 : (len : Int) ≤ 10
    · obtain rfl : N = len := by have := HN.out; omega
      go_enter Tryd.func117, Tryd.ntmps117
      go_wp2
      go_loop [5, 14] (fun v i => ∃ (k : Nat) (X : Int), k ≤ N ∧ i = .int .i64 k ∧ v = .int .u64 X ∧ (k ≤ 9 → X = val (xs.take k)) ∧ ∀ j, j < k → 128 ≤ xs[j]?.getD 0) (fun _ i => N - (intOf i).toNat)
      case atStart => exact ⟨0, 0, Nat.zero_le _, rfl, rfl, fun _ => rfl, fun j hj => by omega⟩
      case round =>
        obtain ⟨k, X, hk, rfl, rfl, hX, hlead⟩ := hrel
        have HX : Hid (k ≤ 9 → X = val (xs.take k)) := hX
        have HL : Hid (∀ j, j < k → 128 ≤ xs[j]?.getD 0) := hlead
        have HE : Hid (xs.length = N) := hlen
        by_cases hlt : k < N
        · have hcell := hc k (by omega)
          have hxk := hx k (by omega)
          clear hc hx hX hlead hlen
          by_cases hc128 : 128 ≤ xs[k]?.getD 0
          · go_wp2
            go_round
            case rel =>
              go_light
              refine ⟨k + 1, _, by omega, by go_num, rfl, fun h9 => ?_, fun j hj => ?_⟩
              · exact or_val xs X k (by have := HE.out; omega) (by omega) (HX.out (by omega)) hxk.1 (fun h => by omega)
              · rcases Nat.lt_or_ge j k with h | h
                · exact HL.out j h
                · obtain rfl : j = k := by omega
                  exact hc128
            case measure => simp [intOf]; try omega
          · by_cases h91 : 9 ≤ k ∧ 1 < xs[k]?.getD 0
            · obtain ⟨h9, h1⟩ := h91
              go_wp2
              go_ret3
              go_light
              refine ⟨ret3rd ?_, rfl⟩
              obtain rfl : k = 9 := by omega
              exact rd_nine xs HL.out (by have := HE.out; omega) (by omega) h1
            · by_cases h0 : 0 < k ∧ xs[k]?.getD 0 ≤ 0
              · obtain ⟨hk0, h0⟩ := h0
                go_wp2
                all_goals go_ret3
                all_goals go_light
                all_goals exact ⟨ret3rd (rd_form xs k HL.out (by have := HE.out; omega) (by omega) hk0 (by omega)), rfl⟩
              · have HO : Hid (bits .or .u64 X (IntKind.u64.wrap (xs[k]?.getD 0 % 128 * 2 ^ (7 * k))) = val (xs.take (k + 1))) := or_val xs X k (by have := HE.out; omega) (by omega) (HX.out (by omega)) hxk.1 (fun h => by omega)
                have HR : Hid (rd xs = (val (xs.take (k + 1)), (k : Int) + 1, 0)) := rd_ok xs k HL.out (by have := HE.out; omega) (by omega) (by omega) (fun h => by omega) (fun h => by omega)
                go_wp2
                all_goals go_ret3
                all_goals go_light
                all_goals exact ⟨(ret3 HO.out (by omega) rfl).trans (ret3rd HR.out), rfl⟩
        · have HR : Hid (rd xs = (0, 0, if (N : Int) < 10 then 10 else 11)) := by
            show _ = _
            by_cases h : (N : Int) < 10
            · rw [if_pos h]; exact rd_short xs (fun j hj => hlead j (by omega)) (by omega)
            · rw [if_neg h]; exact rd_long xs (fun j hj => hlead j (by omega)) (by omega)
          clear hc hx hX hlead hlen
          go_wp2
          all_goals go_ret3
          all_goals go_light
          all_goals (refine ⟨ret3rd (HR.out.trans ?_), rfl⟩; first | rw [if_pos (by omega)] | rw [if_neg (by omega)])
    · obtain rfl : N = 10 := by have := HN.out; omega
      go_enter Tryd.func117, Tryd.ntmps117
      go_wp2
      go_loop [5, 14] (fun v i => ∃ (k : Nat) (X : Int), k ≤ 10 ∧ i = .int .i64 k ∧ v = .int .u64 X ∧ (k ≤ 9 → X = val (xs.take k)) ∧ ∀ j, j < k → 128 ≤ xs[j]?.getD 0) (fun _ i => 10 - (intOf i).toNat)
      case atStart => exact ⟨0, 0, Nat.zero_le _, rfl, rfl, fun _ => rfl, fun j hj => by omega⟩
      case round =>
        obtain ⟨k, X, hk, rfl, rfl, hX, hlead⟩ := hrel
        have HX : Hid (k ≤ 9 → X = val (xs.take k)) := hX
        have HL : Hid (∀ j, j < k → 128 ≤ xs[j]?.getD 0) := hlead
        have HE : Hid (xs.length = len) := hlen
        by_cases hlt : k < 10
        · have hcell := hc k (by omega)
          have hxk := hx k (by omega)
          clear hc hx hX hlead hlen
          by_cases hc128 : 128 ≤ xs[k]?.getD 0
          · go_wp2
            go_round
            case rel =>
              go_light
              refine ⟨k + 1, _, by omega, by go_num, rfl, fun h9 => ?_, fun j hj => ?_⟩
              · exact or_val xs X k (by have := HE.out; omega) (by omega) (HX.out (by omega)) hxk.1 (fun h => by omega)
              · rcases Nat.lt_or_ge j k with h | h
                · exact HL.out j h
                · obtain rfl : j = k := by omega
                  exact hc128
            case measure => simp [intOf]; try omega
          · by_cases h91 : 9 ≤ k ∧ 1 < xs[k]?.getD 0
            · obtain ⟨h9, h1⟩ := h91
              go_wp2
              go_ret3
              go_light
              refine ⟨ret3rd ?_, rfl⟩
              obtain rfl : k = 9 := by omega
              exact rd_nine xs HL.out (by have := HE.out; omega) (by omega) h1
            · by_cases h0 : 0 < k ∧ xs[k]?.getD 0 ≤ 0
              · obtain ⟨hk0, h0⟩ := h0
                go_wp2
                all_goals go_ret3
                all_goals go_light
                all_goals exact ⟨ret3rd (rd_form xs k HL.out (by have := HE.out; omega) (by omega) hk0 (by omega)), rfl⟩
              · have HO : Hid (bits .or .u64 X (IntKind.u64.wrap (xs[k]?.getD 0 % 128 * 2 ^ (7 * k))) = val (xs.take (k + 1))) := or_val xs X k (by have := HE.out; omega) (by omega) (HX.out (by omega)) hxk.1 (fun h => by omega)
                have HR : Hid (rd xs = (val (xs.take (k + 1)), (k : Int) + 1, 0)) := rd_ok xs k HL.out (by have := HE.out; omega) (by omega) (by omega) (fun h => by omega) (fun h => by omega)
                go_wp2
                all_goals go_ret3
                all_goals go_light
                all_goals exact ⟨(ret3 HO.out (by omega) rfl).trans (ret3rd HR.out), rfl⟩
        · have HR : Hid (rd xs = (0, 0, if (len : Int) < 10 then 10 else 11)) := by
            show _ = _
            rw [if_neg (by omega)]; exact rd_long xs (fun j hj => hlead j (by omega)) (by omega)
          clear hc hx hX hlead hlen
          go_wp2
          all_goals go_ret3
          all_goals go_light
          all_goals (refine ⟨ret3rd (HR.out.trans ?_), rfl⟩; first | rw [if_pos (by omega)] | rw [if_neg (by omega)])

end Go.Proofs.YtcdgfghcmeadgaaDoor
namespace Go.Proofs.YtcdgfghcmeadgaaDoor
open Go.RowKit
set_option linter.unusedVariables false

/-- What Uint takes up of these bytes, from place p on: the number, how many bytes, the error. -/
def ru (xs : List Int) (p : Nat) : Int × Nat × Int := ((rd (xs.drop p)).1, (rd (xs.drop p)).2.1.toNat, nm (rd (xs.drop p)).2.2)
theorem ru_le {xs : List Int} (hx : Bytes xs) (p : Nat) (hp : p ≤ xs.length) : p + (ru xs p).2.1 ≤ xs.length := by
  have := (rd_bd _ (bytes_drop hx p)).2.1
  simp only [List.length_drop] at this
  simp only [ru]; omega

set_option maxRecDepth 20000 in
theorem uint_ok (g : Nat) (a : Option Addr) (len cap : Nat) (xs : List Int) (p : Nat) (w : World) (h : RS w g a len cap xs 0 p) :
    Calls Tryd.prog 107 #[.pointer (some ⟨g, 0, none⟩)] w fun r w' => r = .returned (.int .u64 (ru xs p).1) ∧ RS w' g a len cap xs (ru xs p).2.2 (p + (ru xs p).2.1) ∧ w.grownBy w' (some g) := by
  have HR : Hid (RS w g a len cap xs 0 p) := h
  have h2 := h.rdr.c2
  have h3 := h.rdr.c3
  have hle := h.le
  have hlc := h.lc
  have hcm := h.cm
  obtain ⟨V, m, E, hrd⟩ : ∃ V m E, rd (xs.drop p) = (V, m, E) := ⟨_, _, _, rfl⟩
  have HRD : Hid (rd (xs.drop p) = (V, m, E)) := hrd
  have HD : Hid (∀ (a' : Option Addr) (n : Nat), Seg .u8 w a' (len - p) (xs.drop p) → Calls Tryd.prog 117 #[.slice a' (len - p) (cap - p)] (w.drewN n) fun e w' => e = .returned (.tuple #[.int .u64 V, .int .i64 m, .int .i64 E]) ∧ w' = w.drewN n) := by
    intro a' n hs
    have := decode_c a' (len - p) (cap - p) (xs.drop p) (w.drewN n) (hs.below (below_drewN (Below.refl _ _) n)) (bytes_drop h.bytes p) (by omega) (by omega)
    rw [hrd] at this; exact this
  have HV : Hid (m = ((m.toNat : Nat) : Int) ∧ p + m.toNat ≤ len) := by
    have := (rd_bd _ (bytes_drop h.bytes p)).2.1
    rw [hrd, List.length_drop, h.seg.1] at this; simp only at this
    exact ⟨by omega, by omega⟩
  clear hrd
  cases a with
  | none =>
    have HS : Hid (Seg .u8 w none (len - p) (xs.drop p)) := seg_from h.seg p
    clear h
    go_enter Tryd.func107, Tryd.ntmps107
    go_wp2_with fail
    refine (ready_c g 0 _ _ w HR.out.rdr).mono ?_
    rintro r w1 ⟨rfl, rfl⟩
    go_wp2_with fail
    go_quiet ((go_at_call 117; go_must (refine Calls.quiet_of_same (HD.out _ _ HS.out))))
    go_wp2
    obtain ⟨w2, hw2⟩ : ∃ w2, w2 = w1.drewN nq := ⟨_, rfl⟩
    rw [← hw2]
    have HR2 : Hid (RS w2.drew g none len cap xs 0 p) := by rw [hw2]; exact (HR.out.drewN nq).drewN 1
    have HG2 : Hid (w1.grownBy w2.drew (some g)) := by rw [hw2]; exact gb_drewN (gb_drewN (World.grownBy.refl _ _) nq) 1
    clear hw2 h2 h3 HS HR HD
    go_region_held3 (fun _ => True) (trivial) (first
      | (go_at_call 118; refine (named_c _ _).mono ?_; rintro e w3 ⟨rfl, rfl⟩)
      | (go_at_call 102; refine (rfail_ok g _ _ _ _ _ _ _ HR2.out).mono ?_; rintro e w4 ⟨rfl, hr4, hg4⟩; have HR4 : Hid (RS w4 g none len cap xs (nm E) p) := hr4; have HG4 : Hid (w1.grownBy w4 (some g)) := gb_trans HG2.out hg4; clear hr4 hg4))
    have c3 := HR4.out.rdr.c3
    have f3 := HR4.out.rdr.free 3
    go_wp2
    go_ret
    obtain ⟨hm, hpm⟩ := HV.out
    have hw : wrap64 ((p : Int) + m) = ((p + m.toNat : Nat) : Int) := by rw [IntWalk.wrap64_in _ ⟨by omega, by omega⟩]; omega
    have he : ru xs p = (V, m.toNat, nm E) := by simp [ru, HRD.out]
    rw [he, hw]
    obtain ⟨m1, m2⟩ := HR4.out.moves (p + m.toNat) hpm
    exact ⟨rfl, m1, gb_trans HG4.out m2⟩
  | some ad =>
    have HS : Hid (Seg .u8 w (if cap = p then some ad else some (ad.add p)) (len - p) (xs.drop p)) := by
      by_cases hc : cap = p
      · rw [if_pos hc]; exact ⟨by simp [h.seg.1], .inl (by omega)⟩
      · rw [if_neg hc]; exact seg_from h.seg p
    obtain ⟨a1, ha1⟩ : ∃ a1, (if cap = p then some ad else some (ad.add p)) = a1 := ⟨_, rfl⟩
    rw [ha1] at HS
    clear h
    go_enter Tryd.func107, Tryd.ntmps107
    go_wp2_with fail
    refine (ready_c g 0 _ _ w HR.out.rdr).mono ?_
    rintro r w1 ⟨rfl, rfl⟩
    go_wp2_with fail
    go_quiet ((go_at_call 117; go_must (refine Calls.quiet_of_same (HD.out _ _ HS.out))))
    go_wp2
    obtain ⟨w2, hw2⟩ : ∃ w2, w2 = w1.drewN nq := ⟨_, rfl⟩
    rw [← hw2]
    have HR2 : Hid (RS w2.drew g (some ad) len cap xs 0 p) := by rw [hw2]; exact (HR.out.drewN nq).drewN 1
    have HG2 : Hid (w1.grownBy w2.drew (some g)) := by rw [hw2]; exact gb_drewN (gb_drewN (World.grownBy.refl _ _) nq) 1
    clear hw2 h2 h3 HS HR HD ha1
    go_region_held3 (fun _ => True) (trivial) (first
      | (go_at_call 118; refine (named_c _ _).mono ?_; rintro e w3 ⟨rfl, rfl⟩)
      | (go_at_call 102; refine (rfail_ok g _ _ _ _ _ _ _ HR2.out).mono ?_; rintro e w4 ⟨rfl, hr4, hg4⟩; have HR4 : Hid (RS w4 g (some ad) len cap xs (nm E) p) := hr4; have HG4 : Hid (w1.grownBy w4 (some g)) := gb_trans HG2.out hg4; clear hr4 hg4))
    have c3 := HR4.out.rdr.c3
    have f3 := HR4.out.rdr.free 3
    go_wp2
    go_ret
    obtain ⟨hm, hpm⟩ := HV.out
    have hw : wrap64 ((p : Int) + m) = ((p + m.toNat : Nat) : Int) := by rw [IntWalk.wrap64_in _ ⟨by omega, by omega⟩]; omega
    have he : ru xs p = (V, m.toNat, nm E) := by simp [ru, HRD.out]
    rw [he, hw]
    obtain ⟨m1, m2⟩ := HR4.out.moves (p + m.toNat) hpm
    exact ⟨rfl, m1, gb_trans HG4.out m2⟩
end Go.Proofs.YtcdgfghcmeadgaaDoor
namespace Go.Proofs.YtcdgfghcmeadgaaDoor
open Go.RowKit
set_option linter.unusedVariables false

theorem uint_no (g : Nat) (e : Int) (v : Value) (p : Int) (w : World) (h : Rdr w g e v p) (he : (e == 0) = false) :
    Calls Tryd.prog 107 #[.pointer (some ⟨g, 0, none⟩)] w fun r w' => r = .returned (.int .u64 0) ∧ w' = w := by
  go_enter Tryd.func107, Tryd.ntmps107
  go_wp2_with fail
  refine (ready_c g e v p w h).mono ?_
  rintro r w1 ⟨rfl, rfl⟩
  go_wp2
  go_ret
  exact ⟨rfl, rfl⟩

theorem left_c (g : Nat) (e : Int) (a : Option Addr) (len cap p : Nat) (w : World) (h : Rdr w g e (.slice a len cap) p) (hp : p ≤ len) (hl : len ≤ 140737488355328) :
    Calls Tryd.prog 108 #[.pointer (some ⟨g, 0, none⟩)] w fun r w' => r = .returned (.int .i64 ((len - p : Nat) : Int)) ∧ ∃ n, w' = w.drewN n := by
  have h2 := h.c2
  have h3 := h.c3
  clear h
  go_enter Tryd.func108, Tryd.ntmps108
  go_wp2
  go_quiet (fail)
  go_wp2
  go_ret
  exact ⟨ret_int (by omega), _, rfl⟩

theorem at_c (g : Nat) (e : Int) (v : Value) (p : Int) (w : World) (h : Rdr w g e v p) :
    Calls Tryd.prog 98 #[.pointer (some ⟨g, 0, none⟩)] w fun r w' => r = .returned (.int .i64 p) ∧ w' = w := by
  have h3 := h.c3
  clear h
  go_enter Tryd.func98, Tryd.ntmps98
  go_wp2
  go_ret
  exact ⟨rfl, rfl⟩

/-- What End answers. -/
def rend (len : Nat) (e : Int) (p : Nat) : Int := if e = 0 then (if p < len then 34 else 0) else e
theorem end_c (g : Nat) (e : Int) (a : Option Addr) (len cap p : Nat) (w : World) (h : Rdr w g e (.slice a len cap) p) (hp : p ≤ len) (hl : len ≤ 140737488355328) :
    Calls Tryd.prog 85 #[.pointer (some ⟨g, 0, none⟩)] w fun r w' => r = .returned (.int .i64 (rend len e p)) ∧ ∃ n, w' = w.drewN n := by
  by_cases he : e = 0
  · subst he
    have HH : Hid (Rdr w g 0 (.slice a len cap) p) := h
    clear h
    have HE : Hid (rend len 0 p = if p < len then 34 else 0) := by show _ = _; simp [rend]
    by_cases hlt : p < len
    · have hd : Hid ((0 : Int) < ((len - p : Nat) : Int)) := by show _ < _; omega
      rw [if_pos hlt] at HE
      clear hlt
      obtain ⟨L, hL⟩ : ∃ L, L = len - p := ⟨_, rfl⟩
      have HC : Hid (Calls Tryd.prog 108 #[.pointer (some ⟨g, 0, none⟩)] w fun r w' => r = .returned (.int .i64 (L : Int)) ∧ ∃ n, w' = w.drewN n) := by rw [hL]; exact left_c g 0 a len cap p w HH.out hp hl
      rw [← hL] at hd
      have hd2 := hd.out
      clear hL hd
      go_enter Tryd.func85, Tryd.ntmps85
      go_wp2_with fail
      refine (err_c g 0 _ _ w HH.out).mono ?_
      rintro r w1 ⟨rfl, rfl⟩
      go_wp2_with fail
      refine HC.out.mono ?_
      rintro r w2 ⟨rfl, n, rfl⟩
      go_wp2
      go_ret
      exact ⟨ret_int HE.out.symm, _, rfl⟩
    · rw [if_neg hlt] at HE
      obtain ⟨L, hL⟩ : ∃ L, L = len - p := ⟨_, rfl⟩
      have HC : Hid (Calls Tryd.prog 108 #[.pointer (some ⟨g, 0, none⟩)] w fun r w' => r = .returned (.int .i64 (L : Int)) ∧ ∃ n, w' = w.drewN n) := by rw [hL]; exact left_c g 0 a len cap p w HH.out hp hl
      have hd2 : L = 0 := by omega
      subst hd2
      clear hL hlt
      go_enter Tryd.func85, Tryd.ntmps85
      go_wp2_with fail
      refine (err_c g 0 _ _ w HH.out).mono ?_
      rintro r w1 ⟨rfl, rfl⟩
      go_wp2_with fail
      refine HC.out.mono ?_
      rintro r w2 ⟨rfl, n, rfl⟩
      go_wp2
      go_ret
      exact ⟨ret_int HE.out.symm, _, rfl⟩
  · have hb : (e != 0) = true := by simp [he]
    have HE : Hid (rend len e p = e) := by show _ = _; simp [rend, he]
    clear he
    go_enter Tryd.func85, Tryd.ntmps85
    go_wp2_with fail
    refine (err_c g e _ _ w h).mono ?_
    rintro r w1 ⟨rfl, rfl⟩
    go_wp2
    go_ret
    exact ⟨ret_int HE.out.symm, 0, rfl⟩

/-- What Int takes up: the number, the place behind it, the error. -/
def ri (xs : List Int) (p : Nat) (most : Int) : Int × Nat × Int :=
  if most < 0 then (0, p, 1) else if (ru xs p).2.2 ≠ 0 then (0, p, (ru xs p).2.2) else if most < (ru xs p).1 then (0, p, 31) else ((ru xs p).1, p + (ru xs p).2.1, 0)

theorem int_no (g : Nat) (e : Int) (v : Value) (p : Int) (most : Int) (w : World) (h : Rdr w g e v p) (he : (e == 0) = false) :
    Calls Tryd.prog 81 #[.pointer (some ⟨g, 0, none⟩), .int .i64 most] w fun r w' => r = .returned (.int .i64 0) ∧ w' = w := by
  go_enter Tryd.func81, Tryd.ntmps81
  go_wp2_with fail
  refine (ready_c g e v p w h).mono ?_
  rintro r w1 ⟨rfl, rfl⟩
  go_wp2
  go_ret
  exact ⟨rfl, rfl⟩

theorem nm_zero {e : Int} (h0 : 0 ≤ e) : nm e = 0 ↔ e = 0 := by
  unfold nm
  split
  · omega
  · split
    · omega
    · split <;> omega
theorem ru_err {xs : List Int} (hx : Bytes xs) (p : Nat) (h : (ru xs p).2.2 ≠ 0) : (ru xs p).1 = 0 ∧ (ru xs p).2.1 = 0 := by
  have hb := (rd_bd _ (bytes_drop hx p)).2.2.1
  have h2 : (rd (xs.drop p)).2.2 ≠ 0 := fun e => h ((nm_zero hb).2 e)
  simp only [ru]
  generalize xs.drop p = ys at h2 ⊢
  unfold rd at h2 ⊢
  split
  · simp
  · split
    · simp
    · split
      · simp
      · rename_i a b c
        rw [if_neg a, if_neg b, if_neg c] at h2
        simp at h2
theorem ru_bd {xs : List Int} (hx : Bytes xs) (p : Nat) : 0 ≤ (ru xs p).1 ∧ (ru xs p).1 < 18446744073709551616 := (rd_bd _ (bytes_drop hx p)).1

set_option maxRecDepth 20000 in
theorem int_neg (g : Nat) (a : Option Addr) (len cap : Nat) (xs : List Int) (p : Nat) (most : Int) (w : World) (h : RS w g a len cap xs 0 p) (hm : most < 0) :
    Calls Tryd.prog 81 #[.pointer (some ⟨g, 0, none⟩), .int .i64 most] w fun r w' => r = .returned (.int .i64 (ri xs p most).1) ∧ RS w' g a len cap xs (ri xs p most).2.2 (ri xs p most).2.1 ∧ w.grownBy w' (some g) := by
  have he : ri xs p most = (0, p, 1) := by simp [ri, hm]
  have hd : decide (0 ≤ most) = false := by simp; omega
  rw [he]
  have HR : Hid (RS w g a len cap xs 0 p) := h
  clear h he hm
  go_enter Tryd.func81, Tryd.ntmps81
  go_wp2_with fail
  refine (ready_c g 0 _ _ w HR.out.rdr).mono ?_
  rintro r w1 ⟨rfl, rfl⟩
  go_wp2_with fail
  refine (rmust_ok g a len cap xs p 1 _ rfl HR.out).mono ?_
  rintro r w2 ⟨rfl, h1, h2⟩
  have H1 : Hid (RS w2 g a len cap xs 1 p ∧ w1.grownBy w2 (some g)) := ⟨h1, h2⟩
  clear h1 h2
  go_wp2
  go_ret
  exact ⟨rfl, H1.out.1, H1.out.2⟩

set_option maxRecDepth 20000 in
theorem int_pos (g : Nat) (a : Option Addr) (len cap : Nat) (xs : List Int) (p : Nat) (most : Int) (w : World) (h : RS w g a len cap xs 0 p) (hm : 0 ≤ most) (hm2 : most ≤ 9223372036854775807) :
    Calls Tryd.prog 81 #[.pointer (some ⟨g, 0, none⟩), .int .i64 most] w fun r w' => r = .returned (.int .i64 (ri xs p most).1) ∧ RS w' g a len cap xs (ri xs p most).2.2 (ri xs p most).2.1 ∧ w.grownBy w' (some g) := by
  have HR : Hid (RS w g a len cap xs 0 p) := h
  have hbd := ru_bd h.bytes p
  have HRR : Hid ((ru xs p).2.2 ≠ 0 → (ru xs p).1 = 0 ∧ (ru xs p).2.1 = 0) := ru_err h.bytes p
  have HU : Hid (∀ w, RS w g a len cap xs 0 p → Calls Tryd.prog 107 #[.pointer (some ⟨g, 0, none⟩)] w fun r w' => r = .returned (.int .u64 (ru xs p).1) ∧ RS w' g a len cap xs (ru xs p).2.2 (p + (ru xs p).2.1) ∧ w.grownBy w' (some g)) := fun w h => uint_ok g a len cap xs p w h
  have HI : Hid (ri xs p most = if (ru xs p).2.2 ≠ 0 then (0, p, (ru xs p).2.2) else if most < (ru xs p).1 then (0, p, 31) else ((ru xs p).1, p + (ru xs p).2.1, 0)) := by
    show _ = _
    rw [ri, if_neg (by omega)]
  obtain ⟨V, c, E, hru⟩ : ∃ V c E, ru xs p = (V, c, E) := ⟨_, _, _, rfl⟩
  rw [hru] at hbd HRR HU HI
  simp only at hbd HRR HU HI
  have h3 := h.rdr.c3
  have hple := h.le
  clear h hru
  obtain ⟨R, hR⟩ : ∃ R, R = ri xs p most := ⟨_, rfl⟩
  rw [← hR] at HI ⊢
  clear hR
  by_cases hE : E = 0
  · subst hE
    rw [if_neg (by simp)] at HI
    by_cases hv : V ≤ most
    · rw [if_neg (by omega)] at HI
      rw [HI.out]
      clear HI HRR
      go_enter Tryd.func81, Tryd.ntmps81
      go_wp2_with fail
      refine (ready_c g 0 _ _ w HR.out.rdr).mono ?_
      rintro r w1 ⟨rfl, rfl⟩
      go_wp2_with fail
      refine (must_so g 0 1 _ HR.out.rdr.c0).mono ?_
      rintro r w2 ⟨rfl, rfl⟩
      go_wp2_with fail
      refine (HU.out _ HR.out).mono ?_
      rintro r w3 ⟨rfl, h1, h2⟩
      have H1 : Hid (RS w3 g a len cap xs 0 (p + c) ∧ w2.grownBy w3 (some g)) := ⟨h1, h2⟩
      clear h1 h2
      go_wp2_with fail
      refine (must_so g 0 31 _ H1.out.1.rdr.c0).mono ?_
      rintro r w4 ⟨rfl, rfl⟩
      go_wp2
      go_ret
      exact ⟨ret_int (by omega), H1.out.1, H1.out.2⟩
    · rw [if_pos (by omega)] at HI
      rw [HI.out]
      have hd : decide (V ≤ most) = false := by simp; omega
      clear HI HRR hv
      go_enter Tryd.func81, Tryd.ntmps81
      go_wp2_with fail
      refine (ready_c g 0 _ _ w HR.out.rdr).mono ?_
      rintro r w1 ⟨rfl, rfl⟩
      go_wp2_with fail
      refine (must_so g 0 1 _ HR.out.rdr.c0).mono ?_
      rintro r w2 ⟨rfl, rfl⟩
      go_wp2_with fail
      refine (HU.out _ HR.out).mono ?_
      rintro r w3 ⟨rfl, h1, h2⟩
      have H1 : Hid (RS w3 g a len cap xs 0 (p + c) ∧ w2.grownBy w3 (some g)) := ⟨h1, h2⟩
      clear h1 h2
      go_wp2_with fail
      refine (rmust_ok g a len cap xs (p + c) 31 _ rfl H1.out.1).mono ?_
      rintro r w4 ⟨rfl, h1, h2⟩
      have H2 : Hid (RS w4 g a len cap xs 31 (p + c) ∧ w2.grownBy w4 (some g)) := ⟨h1, gb_trans H1.out.2 h2⟩
      have c3 := h1.rdr.c3
      have f3 := h1.rdr.free 3
      clear h1 h2
      go_wp2
      go_ret
      obtain ⟨m1, m2⟩ := H2.out.1.moves p hple
      exact ⟨rfl, m1, gb_trans H2.out.2 m2⟩
  · have hb : (E == 0) = false := by simp [hE]
    obtain ⟨rfl, rfl⟩ := HRR.out hE
    rw [if_pos hE] at HI
    rw [HI.out]
    clear HI HRR hE hbd
    go_enter Tryd.func81, Tryd.ntmps81
    go_wp2_with fail
    refine (ready_c g 0 _ _ w HR.out.rdr).mono ?_
    rintro r w1 ⟨rfl, rfl⟩
    go_wp2_with fail
    refine (must_so g 0 1 _ HR.out.rdr.c0).mono ?_
    rintro r w2 ⟨rfl, rfl⟩
    go_wp2_with fail
    refine (HU.out _ HR.out).mono ?_
    rintro r w3 ⟨rfl, h1, h2⟩
    have H1 : Hid (RS w3 g a len cap xs E p ∧ w2.grownBy w3 (some g)) := ⟨h1, h2⟩
    have c3 := h1.rdr.c3
    have f3 := h1.rdr.free 3
    clear h1 h2
    go_wp2_with fail
    refine (must_so g E 31 _ H1.out.1.rdr.c0).mono ?_
    rintro r w4 ⟨rfl, rfl⟩
    go_wp2
    go_ret
    obtain ⟨m1, m2⟩ := H1.out.1.moves p hple
    exact ⟨rfl, m1, gb_trans H1.out.2 m2⟩

theorem int_ok (g : Nat) (a : Option Addr) (len cap : Nat) (xs : List Int) (p : Nat) (most : Int) (w : World) (h : RS w g a len cap xs 0 p) (hm2 : most ≤ 9223372036854775807) :
    Calls Tryd.prog 81 #[.pointer (some ⟨g, 0, none⟩), .int .i64 most] w fun r w' => r = .returned (.int .i64 (ri xs p most).1) ∧ RS w' g a len cap xs (ri xs p most).2.2 (ri xs p most).2.1 ∧ w.grownBy w' (some g) := by
  by_cases hm : most < 0
  · exact int_neg g a len cap xs p most w h hm
  · exact int_pos g a len cap xs p most w h (by omega) hm2
theorem ri_bd {xs : List Int} (hx : Bytes xs) (p : Nat) (hp : p ≤ xs.length) (most : Int) : 0 ≤ (ri xs p most).1 ∧ ((ri xs p most).1 ≤ most ∨ (ri xs p most).1 = 0) ∧ p ≤ (ri xs p most).2.1 ∧ (ri xs p most).2.1 ≤ xs.length ∧ ((ri xs p most).2.2 ≠ 0 → (ri xs p most).1 = 0 ∧ (ri xs p most).2.1 = p) := by
  have h1 := ru_bd hx p
  have h2 := ru_le hx p hp
  unfold ri
  split
  · simp; omega
  · split
    · simp; omega
    · split
      · simp; omega
      · simp only; refine ⟨h1.1, .inl (by omega), by omega, h2, fun h => absurd rfl h⟩
end Go.Proofs.YtcdgfghcmeadgaaDoor
