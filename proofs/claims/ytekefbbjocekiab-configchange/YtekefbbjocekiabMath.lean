/-
  Plain mathematics for the laws of package leb: numbers as groups of seven bits, signs, and how many bits a number has. No condition of its own; it imports nothing of the program.
-/
namespace Go.Proofs.Ytekefbbjocekiab
set_option linter.unusedVariables false

/-- A number with a sign as one without. -/
def zig (a : Int) : Int := if 0 ≤ a then 2 * a else -2 * a - 1
/-- And back. -/
def zag (u : Int) : Int := if u % 2 = 0 then u / 2 else - (u / 2) - 1

theorem zig_bd (a : Int) (h1 : -9223372036854775808 ≤ a) (h2 : a ≤ 9223372036854775807) : 0 ≤ zig a ∧ zig a < 18446744073709551616 := by
  unfold zig; split <;> omega
theorem zag_bd (u : Int) (h1 : 0 ≤ u) (h2 : u < 18446744073709551616) : -9223372036854775808 ≤ zag u ∧ zag u ≤ 9223372036854775807 := by
  unfold zag; split <;> omega
theorem zag_zig (a : Int) : zag (zig a) = a := by
  unfold zig zag; split <;> split <;> omega
theorem zig_zag (u : Int) (h : 0 ≤ u) : zig (zag u) = u := by
  unfold zig zag; split <;> split <;> omega

/-- How many bits a number below 256 has. -/
def bl8 (x : Int) : Int :=
  if x < 1 then 0 else if x < 2 then 1 else if x < 4 then 2 else if x < 8 then 3 else if x < 16 then 4 else if x < 32 then 5 else if x < 64 then 6 else if x < 128 then 7 else 8
def bl16 (x : Int) : Int := if 256 ≤ x then 8 + bl8 (x / 256) else bl8 x
def bl32 (x : Int) : Int := if 65536 ≤ x then 16 + bl16 (x / 65536) else bl16 x
/-- How many bits a number below 2^64 has. -/
def bl64 (x : Int) : Int := if 4294967296 ≤ x then 32 + bl32 (x / 4294967296) else bl32 x

/-- What is asked of a count of bits. -/
def IsBl (m : Nat) (b : Int) (k : Nat) : Prop := ∃ n : Nat, b = n ∧ n ≤ k ∧ m < 2 ^ n ∧ (1 ≤ m → 1 ≤ n ∧ 2 ^ (n - 1) ≤ m)
theorem bl8_is (m : Nat) (h : m < 256) : IsBl m (bl8 m) 8 := by
  unfold bl8
  repeat' split
  · exact ⟨0, rfl, by omega, by omega, by omega⟩
  · exact ⟨1, rfl, by omega, by omega, by omega⟩
  · exact ⟨2, rfl, by omega, by omega, by omega⟩
  · exact ⟨3, rfl, by omega, by omega, by omega⟩
  · exact ⟨4, rfl, by omega, by omega, by omega⟩
  · exact ⟨5, rfl, by omega, by omega, by omega⟩
  · exact ⟨6, rfl, by omega, by omega, by omega⟩
  · exact ⟨7, rfl, by omega, by omega, by omega⟩
  · exact ⟨8, rfl, by omega, by omega, by omega⟩
theorem isBl_up (m j k : Nat) (b : Int) (hm : 2 ^ j ≤ m) (h : IsBl (m / 2 ^ j) b k) : IsBl m (j + b) (j + k) := by
  obtain ⟨n, rfl, hn, hlt, hle⟩ := h
  have h1 : 1 ≤ m / 2 ^ j := (Nat.le_div_iff_mul_le (Nat.two_pow_pos j)).2 (by omega)
  obtain ⟨hn1, hp⟩ := hle h1
  refine ⟨j + n, by omega, by omega, ?_, fun _ => ⟨by omega, ?_⟩⟩
  · rw [Nat.pow_add, Nat.mul_comm]; exact (Nat.div_lt_iff_lt_mul (Nat.two_pow_pos j)).1 hlt
  · rw [show j + n - 1 = (n - 1) + j from by omega, Nat.pow_add]; exact (Nat.le_div_iff_mul_le (Nat.two_pow_pos j)).1 hp
theorem isBl_wide {m k l : Nat} {b : Int} (h : IsBl m b k) (hl : k ≤ l) : IsBl m b l := by
  obtain ⟨n, a, c, d⟩ := h; exact ⟨n, a, by omega, d⟩
theorem bl16_is (m : Nat) (h : m < 65536) : IsBl m (bl16 m) 16 := by
  unfold bl16
  split
  · have := isBl_up m 8 8 (bl8 ((m / 256 : Nat))) (by omega) (bl8_is _ (by omega))
    simpa using this
  · exact isBl_wide (bl8_is m (by omega)) (by omega)
theorem bl32_is (m : Nat) (h : m < 4294967296) : IsBl m (bl32 m) 32 := by
  unfold bl32
  split
  · have := isBl_up m 16 16 (bl16 ((m / 65536 : Nat))) (by omega) (bl16_is _ (by omega))
    simpa using this
  · exact isBl_wide (bl16_is m (by omega)) (by omega)
theorem bl64_is (m : Nat) (h : m < 18446744073709551616) : IsBl m (bl64 m) 64 := by
  unfold bl64
  split
  · have := isBl_up m 32 32 (bl32 ((m / 4294967296 : Nat))) (by omega) (bl32_is _ (by omega))
    simpa using this
  · exact isBl_wide (bl32_is m (by omega)) (by omega)

/-- One where v has come to c, else nothing. -/
def st (c v : Int) : Nat := if c ≤ v then 1 else 0
theorem st_le (c v : Int) : st c v ≤ 1 := by unfold st; split <;> omega
theorem st_mono (c v w : Int) (h : v ≤ w) : st c v ≤ st c w := by unfold st; split <;> split <;> omega
theorem st_yes {c v : Int} (h : c ≤ v) : st c v = 1 := if_pos h
theorem st_no {c v : Int} (h : v < c) : st c v = 0 := if_neg (by omega)
/-- How many groups of seven bits a number below 2^64 has. -/
def sz (v : Int) : Nat := 1 + st 128 v + st 16384 v + st 2097152 v + st 268435456 v + st 34359738368 v + st 4398046511104 v + st 562949953421312 v + st 72057594037927936 v + st 9223372036854775808 v
theorem sz_bd (v : Int) : 1 ≤ sz v ∧ sz v ≤ 10 := by
  unfold sz
  have := st_le 128 v
  have := st_le 16384 v
  have := st_le 2097152 v
  have := st_le 268435456 v
  have := st_le 34359738368 v
  have := st_le 4398046511104 v
  have := st_le 562949953421312 v
  have := st_le 72057594037927936 v
  have := st_le 9223372036854775808 v
  omega
theorem sz_mono (v w : Int) (h : v ≤ w) : sz v ≤ sz w := by
  unfold sz
  have := st_mono 128 v w h
  have := st_mono 16384 v w h
  have := st_mono 2097152 v w h
  have := st_mono 268435456 v w h
  have := st_mono 34359738368 v w h
  have := st_mono 4398046511104 v w h
  have := st_mono 562949953421312 v w h
  have := st_mono 72057594037927936 v w h
  have := st_mono 9223372036854775808 v w h
  omega
theorem sz_1 (v : Int) (h2 : v < 128) : sz v = 1 := by
  unfold sz
  rw [st_no (c := 128) (by omega), st_no (c := 16384) (by omega), st_no (c := 2097152) (by omega), st_no (c := 268435456) (by omega), st_no (c := 34359738368) (by omega), st_no (c := 4398046511104) (by omega), st_no (c := 562949953421312) (by omega), st_no (c := 72057594037927936) (by omega), st_no (c := 9223372036854775808) (by omega)]
theorem sz_2 (v : Int) (h1 : 128 ≤ v) (h2 : v < 16384) : sz v = 2 := by
  unfold sz
  rw [st_yes (c := 128) (by omega), st_no (c := 16384) (by omega), st_no (c := 2097152) (by omega), st_no (c := 268435456) (by omega), st_no (c := 34359738368) (by omega), st_no (c := 4398046511104) (by omega), st_no (c := 562949953421312) (by omega), st_no (c := 72057594037927936) (by omega), st_no (c := 9223372036854775808) (by omega)]
theorem sz_3 (v : Int) (h1 : 16384 ≤ v) (h2 : v < 2097152) : sz v = 3 := by
  unfold sz
  rw [st_yes (c := 128) (by omega), st_yes (c := 16384) (by omega), st_no (c := 2097152) (by omega), st_no (c := 268435456) (by omega), st_no (c := 34359738368) (by omega), st_no (c := 4398046511104) (by omega), st_no (c := 562949953421312) (by omega), st_no (c := 72057594037927936) (by omega), st_no (c := 9223372036854775808) (by omega)]
theorem sz_4 (v : Int) (h1 : 2097152 ≤ v) (h2 : v < 268435456) : sz v = 4 := by
  unfold sz
  rw [st_yes (c := 128) (by omega), st_yes (c := 16384) (by omega), st_yes (c := 2097152) (by omega), st_no (c := 268435456) (by omega), st_no (c := 34359738368) (by omega), st_no (c := 4398046511104) (by omega), st_no (c := 562949953421312) (by omega), st_no (c := 72057594037927936) (by omega), st_no (c := 9223372036854775808) (by omega)]
theorem sz_5 (v : Int) (h1 : 268435456 ≤ v) (h2 : v < 34359738368) : sz v = 5 := by
  unfold sz
  rw [st_yes (c := 128) (by omega), st_yes (c := 16384) (by omega), st_yes (c := 2097152) (by omega), st_yes (c := 268435456) (by omega), st_no (c := 34359738368) (by omega), st_no (c := 4398046511104) (by omega), st_no (c := 562949953421312) (by omega), st_no (c := 72057594037927936) (by omega), st_no (c := 9223372036854775808) (by omega)]
theorem sz_6 (v : Int) (h1 : 34359738368 ≤ v) (h2 : v < 4398046511104) : sz v = 6 := by
  unfold sz
  rw [st_yes (c := 128) (by omega), st_yes (c := 16384) (by omega), st_yes (c := 2097152) (by omega), st_yes (c := 268435456) (by omega), st_yes (c := 34359738368) (by omega), st_no (c := 4398046511104) (by omega), st_no (c := 562949953421312) (by omega), st_no (c := 72057594037927936) (by omega), st_no (c := 9223372036854775808) (by omega)]
theorem sz_7 (v : Int) (h1 : 4398046511104 ≤ v) (h2 : v < 562949953421312) : sz v = 7 := by
  unfold sz
  rw [st_yes (c := 128) (by omega), st_yes (c := 16384) (by omega), st_yes (c := 2097152) (by omega), st_yes (c := 268435456) (by omega), st_yes (c := 34359738368) (by omega), st_yes (c := 4398046511104) (by omega), st_no (c := 562949953421312) (by omega), st_no (c := 72057594037927936) (by omega), st_no (c := 9223372036854775808) (by omega)]
theorem sz_8 (v : Int) (h1 : 562949953421312 ≤ v) (h2 : v < 72057594037927936) : sz v = 8 := by
  unfold sz
  rw [st_yes (c := 128) (by omega), st_yes (c := 16384) (by omega), st_yes (c := 2097152) (by omega), st_yes (c := 268435456) (by omega), st_yes (c := 34359738368) (by omega), st_yes (c := 4398046511104) (by omega), st_yes (c := 562949953421312) (by omega), st_no (c := 72057594037927936) (by omega), st_no (c := 9223372036854775808) (by omega)]
theorem sz_9 (v : Int) (h1 : 72057594037927936 ≤ v) (h2 : v < 9223372036854775808) : sz v = 9 := by
  unfold sz
  rw [st_yes (c := 128) (by omega), st_yes (c := 16384) (by omega), st_yes (c := 2097152) (by omega), st_yes (c := 268435456) (by omega), st_yes (c := 34359738368) (by omega), st_yes (c := 4398046511104) (by omega), st_yes (c := 562949953421312) (by omega), st_yes (c := 72057594037927936) (by omega), st_no (c := 9223372036854775808) (by omega)]
theorem sz_10 (v : Int) (h1 : 9223372036854775808 ≤ v) : sz v = 10 := by
  unfold sz
  rw [st_yes (c := 128) (by omega), st_yes (c := 16384) (by omega), st_yes (c := 2097152) (by omega), st_yes (c := 268435456) (by omega), st_yes (c := 34359738368) (by omega), st_yes (c := 4398046511104) (by omega), st_yes (c := 562949953421312) (by omega), st_yes (c := 72057594037927936) (by omega), st_yes (c := 9223372036854775808) (by omega)]
theorem sz_group (v q : Nat) (hq : q ≤ 9) (h1 : q = 0 ∨ 2 ^ (7 * q) ≤ v) (h2 : v < 2 ^ (7 * q + 7)) : sz v = q + 1 := by
  have hc : q = 0 ∨ q = 1 ∨ q = 2 ∨ q = 3 ∨ q = 4 ∨ q = 5 ∨ q = 6 ∨ q = 7 ∨ q = 8 ∨ q = 9 := by omega
  rcases hc with rfl | rfl | rfl | rfl | rfl | rfl | rfl | rfl | rfl | rfl
  · exact sz_1 v (by omega)
  · exact sz_2 v (by omega) (by omega)
  · exact sz_3 v (by omega) (by omega)
  · exact sz_4 v (by omega) (by omega)
  · exact sz_5 v (by omega) (by omega)
  · exact sz_6 v (by omega) (by omega)
  · exact sz_7 v (by omega) (by omega)
  · exact sz_8 v (by omega) (by omega)
  · exact sz_9 v (by omega) (by omega)
  · exact sz_10 v (by omega)

/-- The bits of 'v or 1', in groups of seven. -/
theorem sz_of_bits (v : Nat) (h : v < 18446744073709551616) : (bl64 ((v / 2 * 2 + 1 : Nat)) + 7 - 1) / 7 = (sz v : Int) := by
  obtain ⟨n, hb, hn, hlt, hle⟩ := bl64_is (v / 2 * 2 + 1) (by omega)
  obtain ⟨hn1, hp⟩ := hle (by omega)
  have hq : (n - 1) / 7 ≤ 9 := by omega
  have e1 : 2 ^ (7 * ((n - 1) / 7)) ≤ 2 ^ (n - 1) := Nat.pow_le_pow_right (by omega) (by omega)
  have e2 : 2 ^ n ≤ 2 ^ (7 * ((n - 1) / 7) + 7) := Nat.pow_le_pow_right (by omega) (by omega)
  have hl : (n - 1) / 7 = 0 ∨ 2 ^ (7 * ((n - 1) / 7)) ≤ v := by
    by_cases h0 : (n - 1) / 7 = 0
    · exact .inl h0
    · right
      have hev : 2 ^ (7 * ((n - 1) / 7)) = 2 * 2 ^ (7 * ((n - 1) / 7) - 1) := by
        rw [← Nat.pow_succ']; congr 1; omega
      omega
  rw [hb]
  rw [sz_group v ((n - 1) / 7) hq hl (by omega)]
  omega


/-- The table of the library's: the bits of each number below 256. -/
def tab : ByteArray := { data := #[0, 1, 2, 2, 3, 3, 3, 3, 4, 4, 4, 4, 4, 4, 4, 4, 5, 5, 5, 5, 5, 5, 5, 5, 5, 5, 5, 5, 5, 5, 5, 5, 6, 6, 6, 6, 6, 6, 6, 6, 6, 6, 6, 6, 6, 6, 6, 6, 6, 6, 6, 6, 6, 6, 6, 6, 6, 6, 6, 6, 6, 6, 6, 6, 7, 7, 7, 7, 7, 7, 7, 7, 7, 7, 7, 7, 7, 7, 7, 7, 7, 7, 7, 7, 7, 7, 7, 7, 7, 7, 7, 7, 7, 7, 7, 7, 7, 7, 7, 7, 7, 7, 7, 7, 7, 7, 7, 7, 7, 7, 7, 7, 7, 7, 7, 7, 7, 7, 7, 7, 7, 7, 7, 7, 7, 7, 7, 7, 8, 8, 8, 8, 8, 8, 8, 8, 8, 8, 8, 8, 8, 8, 8, 8, 8, 8, 8, 8, 8, 8, 8, 8, 8, 8, 8, 8, 8, 8, 8, 8, 8, 8, 8, 8, 8, 8, 8, 8, 8, 8, 8, 8, 8, 8, 8, 8, 8, 8, 8, 8, 8, 8, 8, 8, 8, 8, 8, 8, 8, 8, 8, 8, 8, 8, 8, 8, 8, 8, 8, 8, 8, 8, 8, 8, 8, 8, 8, 8, 8, 8, 8, 8, 8, 8, 8, 8, 8, 8, 8, 8, 8, 8, 8, 8, 8, 8, 8, 8, 8, 8, 8, 8, 8, 8, 8, 8, 8, 8, 8, 8, 8, 8, 8, 8, 8, 8, 8, 8, 8, 8, 8, 8, 8, 8, 8, 8] }
theorem tab_size : tab.size = 256 := by decide +kernel
theorem tab_all : ∀ k : Fin 256, ((tab[k.val]'(by rw [tab_size]; exact k.isLt)).toNat : Int) = bl8 k.val := by decide +kernel
theorem tab_get (y : Int) (h0 : 0 ≤ y) (h1 : y < 256) (h : y.toNat < tab.size) : ((tab[y.toNat]'h).toNat : Int) = bl8 y := by
  have e := tab_all ⟨y.toNat, by omega⟩
  rw [show ((⟨y.toNat, by omega⟩ : Fin 256).val : Int) = y from by simp; omega] at e
  exact e
theorem bl_56 (a : Int) (x1 : 4294967296 ≤ a) (x2 : 65536 ≤ a / 4294967296) (x3 : 256 ≤ a / 4294967296 / 65536) : bl64 a = 56 + bl8 (a / 4294967296 / 65536 / 256) := by
  unfold bl64; rw [if_pos (by omega)]; unfold bl32; rw [if_pos (by omega)]; unfold bl16; rw [if_pos (by omega)]; try omega
theorem bl_48 (a : Int) (x1 : 4294967296 ≤ a) (x2 : 65536 ≤ a / 4294967296) (x3 : a / 4294967296 / 65536 < 256) : bl64 a = 48 + bl8 (a / 4294967296 / 65536) := by
  unfold bl64; rw [if_pos (by omega)]; unfold bl32; rw [if_pos (by omega)]; unfold bl16; rw [if_neg (by omega)]; try omega
theorem bl_40 (a : Int) (x1 : 4294967296 ≤ a) (x2 : a / 4294967296 < 65536) (x3 : 256 ≤ a / 4294967296) : bl64 a = 40 + bl8 (a / 4294967296 / 256) := by
  unfold bl64; rw [if_pos (by omega)]; unfold bl32; rw [if_neg (by omega)]; unfold bl16; rw [if_pos (by omega)]; try omega
theorem bl_32 (a : Int) (x1 : 4294967296 ≤ a) (x2 : a / 4294967296 < 65536) (x3 : a / 4294967296 < 256) : bl64 a = 32 + bl8 (a / 4294967296) := by
  unfold bl64; rw [if_pos (by omega)]; unfold bl32; rw [if_neg (by omega)]; unfold bl16; rw [if_neg (by omega)]; try omega
theorem bl_24 (a : Int) (x1 : a < 4294967296) (x2 : 65536 ≤ a) (x3 : 256 ≤ a / 65536) : bl64 a = 24 + bl8 (a / 65536 / 256) := by
  unfold bl64; rw [if_neg (by omega)]; unfold bl32; rw [if_pos (by omega)]; unfold bl16; rw [if_pos (by omega)]; try omega
theorem bl_16 (a : Int) (x1 : a < 4294967296) (x2 : 65536 ≤ a) (x3 : a / 65536 < 256) : bl64 a = 16 + bl8 (a / 65536) := by
  unfold bl64; rw [if_neg (by omega)]; unfold bl32; rw [if_pos (by omega)]; unfold bl16; rw [if_neg (by omega)]; try omega
theorem bl_8 (a : Int) (x1 : a < 4294967296) (x2 : a < 65536) (x3 : 256 ≤ a) : bl64 a = 8 + bl8 (a / 256) := by
  unfold bl64; rw [if_neg (by omega)]; unfold bl32; rw [if_neg (by omega)]; unfold bl16; rw [if_pos (by omega)]; try omega
theorem bl_0 (a : Int) (_x1 : a < 4294967296) (_x2 : a < 65536) (x3 : a < 256) : bl64 a = 0 + bl8 (a) := by
  unfold bl64; rw [if_neg (by omega)]; unfold bl32; rw [if_neg (by omega)]; unfold bl16; rw [if_neg (by omega)]; try omega

end Go.Proofs.Ytekefbbjocekiab
