/-
  What sha's turn answers, called with one of the ten numbers that the rounds take, and what word answers, called with four bytes or more. Condition: the bytes can be read.
-/
import Derived.Test.YtlfppknpnfeplaaSPu
import Derived.Test.YtlfppknpnfeplaaSeg
import Derived.BigQuiet
namespace Go.Proofs.Ytlfppknpnfeplaa
set_option linter.unusedVariables false
open Go.RowKit

theorem rl2_c (x : Wd) (w : World) : Calls Try.prog 64 #[.int .u32 (W x), .int .i64 (-2)] w fun r w' => r = .returned (.int .u32 (W (rot 2 x))) ∧ w' = w := by
  have h : bits .or .u32 (W x * 1073741824 % 4294967296) (W x / 4) = W (rot 2 x) := by have := W_rot x 2 30 rfl; rw [show (2 : Int) ^ 30 = 1073741824 from rfl, show (2 : Int) ^ 2 = 4 from rfl] at this; exact this
  have e : bits BinOp.and IntKind.u64 (IntKind.u64.wrap (-2)) 31 = 30 := by decide +kernel
  go_enter Try.func64, Try.ntmps64
  go_wp2
  go_ret
  exact ⟨rfl, rfl⟩
theorem turn2_c (x : Wd) (w : World) : Calls Try.prog 59 #[.int .u32 (W x), .int .i64 2] w fun r w' => r = .returned (.int .u32 (W (rot 2 x))) ∧ w' = w := by
  go_enter Try.func59, Try.ntmps59
  go_wp2_with (go_at_call 64; refine (rl2_c x w).mono ?_; rintro r w1 ⟨rfl, rfl⟩)
  go_ret
  exact ⟨rfl, rfl⟩
theorem rl6_c (x : Wd) (w : World) : Calls Try.prog 64 #[.int .u32 (W x), .int .i64 (-6)] w fun r w' => r = .returned (.int .u32 (W (rot 6 x))) ∧ w' = w := by
  have h : bits .or .u32 (W x * 67108864 % 4294967296) (W x / 64) = W (rot 6 x) := by have := W_rot x 6 26 rfl; rw [show (2 : Int) ^ 26 = 67108864 from rfl, show (2 : Int) ^ 6 = 64 from rfl] at this; exact this
  have e : bits BinOp.and IntKind.u64 (IntKind.u64.wrap (-6)) 31 = 26 := by decide +kernel
  go_enter Try.func64, Try.ntmps64
  go_wp2
  go_ret
  exact ⟨rfl, rfl⟩
theorem turn6_c (x : Wd) (w : World) : Calls Try.prog 59 #[.int .u32 (W x), .int .i64 6] w fun r w' => r = .returned (.int .u32 (W (rot 6 x))) ∧ w' = w := by
  go_enter Try.func59, Try.ntmps59
  go_wp2_with (go_at_call 64; refine (rl6_c x w).mono ?_; rintro r w1 ⟨rfl, rfl⟩)
  go_ret
  exact ⟨rfl, rfl⟩
theorem rl7_c (x : Wd) (w : World) : Calls Try.prog 64 #[.int .u32 (W x), .int .i64 (-7)] w fun r w' => r = .returned (.int .u32 (W (rot 7 x))) ∧ w' = w := by
  have h : bits .or .u32 (W x * 33554432 % 4294967296) (W x / 128) = W (rot 7 x) := by have := W_rot x 7 25 rfl; rw [show (2 : Int) ^ 25 = 33554432 from rfl, show (2 : Int) ^ 7 = 128 from rfl] at this; exact this
  have e : bits BinOp.and IntKind.u64 (IntKind.u64.wrap (-7)) 31 = 25 := by decide +kernel
  go_enter Try.func64, Try.ntmps64
  go_wp2
  go_ret
  exact ⟨rfl, rfl⟩
theorem turn7_c (x : Wd) (w : World) : Calls Try.prog 59 #[.int .u32 (W x), .int .i64 7] w fun r w' => r = .returned (.int .u32 (W (rot 7 x))) ∧ w' = w := by
  go_enter Try.func59, Try.ntmps59
  go_wp2_with (go_at_call 64; refine (rl7_c x w).mono ?_; rintro r w1 ⟨rfl, rfl⟩)
  go_ret
  exact ⟨rfl, rfl⟩
theorem rl11_c (x : Wd) (w : World) : Calls Try.prog 64 #[.int .u32 (W x), .int .i64 (-11)] w fun r w' => r = .returned (.int .u32 (W (rot 11 x))) ∧ w' = w := by
  have h : bits .or .u32 (W x * 2097152 % 4294967296) (W x / 2048) = W (rot 11 x) := by have := W_rot x 11 21 rfl; rw [show (2 : Int) ^ 21 = 2097152 from rfl, show (2 : Int) ^ 11 = 2048 from rfl] at this; exact this
  have e : bits BinOp.and IntKind.u64 (IntKind.u64.wrap (-11)) 31 = 21 := by decide +kernel
  go_enter Try.func64, Try.ntmps64
  go_wp2
  go_ret
  exact ⟨rfl, rfl⟩
theorem turn11_c (x : Wd) (w : World) : Calls Try.prog 59 #[.int .u32 (W x), .int .i64 11] w fun r w' => r = .returned (.int .u32 (W (rot 11 x))) ∧ w' = w := by
  go_enter Try.func59, Try.ntmps59
  go_wp2_with (go_at_call 64; refine (rl11_c x w).mono ?_; rintro r w1 ⟨rfl, rfl⟩)
  go_ret
  exact ⟨rfl, rfl⟩
theorem rl13_c (x : Wd) (w : World) : Calls Try.prog 64 #[.int .u32 (W x), .int .i64 (-13)] w fun r w' => r = .returned (.int .u32 (W (rot 13 x))) ∧ w' = w := by
  have h : bits .or .u32 (W x * 524288 % 4294967296) (W x / 8192) = W (rot 13 x) := by have := W_rot x 13 19 rfl; rw [show (2 : Int) ^ 19 = 524288 from rfl, show (2 : Int) ^ 13 = 8192 from rfl] at this; exact this
  have e : bits BinOp.and IntKind.u64 (IntKind.u64.wrap (-13)) 31 = 19 := by decide +kernel
  go_enter Try.func64, Try.ntmps64
  go_wp2
  go_ret
  exact ⟨rfl, rfl⟩
theorem turn13_c (x : Wd) (w : World) : Calls Try.prog 59 #[.int .u32 (W x), .int .i64 13] w fun r w' => r = .returned (.int .u32 (W (rot 13 x))) ∧ w' = w := by
  go_enter Try.func59, Try.ntmps59
  go_wp2_with (go_at_call 64; refine (rl13_c x w).mono ?_; rintro r w1 ⟨rfl, rfl⟩)
  go_ret
  exact ⟨rfl, rfl⟩
theorem rl17_c (x : Wd) (w : World) : Calls Try.prog 64 #[.int .u32 (W x), .int .i64 (-17)] w fun r w' => r = .returned (.int .u32 (W (rot 17 x))) ∧ w' = w := by
  have h : bits .or .u32 (W x * 32768 % 4294967296) (W x / 131072) = W (rot 17 x) := by have := W_rot x 17 15 rfl; rw [show (2 : Int) ^ 15 = 32768 from rfl, show (2 : Int) ^ 17 = 131072 from rfl] at this; exact this
  have e : bits BinOp.and IntKind.u64 (IntKind.u64.wrap (-17)) 31 = 15 := by decide +kernel
  go_enter Try.func64, Try.ntmps64
  go_wp2
  go_ret
  exact ⟨rfl, rfl⟩
theorem turn17_c (x : Wd) (w : World) : Calls Try.prog 59 #[.int .u32 (W x), .int .i64 17] w fun r w' => r = .returned (.int .u32 (W (rot 17 x))) ∧ w' = w := by
  go_enter Try.func59, Try.ntmps59
  go_wp2_with (go_at_call 64; refine (rl17_c x w).mono ?_; rintro r w1 ⟨rfl, rfl⟩)
  go_ret
  exact ⟨rfl, rfl⟩
theorem rl18_c (x : Wd) (w : World) : Calls Try.prog 64 #[.int .u32 (W x), .int .i64 (-18)] w fun r w' => r = .returned (.int .u32 (W (rot 18 x))) ∧ w' = w := by
  have h : bits .or .u32 (W x * 16384 % 4294967296) (W x / 262144) = W (rot 18 x) := by have := W_rot x 18 14 rfl; rw [show (2 : Int) ^ 14 = 16384 from rfl, show (2 : Int) ^ 18 = 262144 from rfl] at this; exact this
  have e : bits BinOp.and IntKind.u64 (IntKind.u64.wrap (-18)) 31 = 14 := by decide +kernel
  go_enter Try.func64, Try.ntmps64
  go_wp2
  go_ret
  exact ⟨rfl, rfl⟩
theorem turn18_c (x : Wd) (w : World) : Calls Try.prog 59 #[.int .u32 (W x), .int .i64 18] w fun r w' => r = .returned (.int .u32 (W (rot 18 x))) ∧ w' = w := by
  go_enter Try.func59, Try.ntmps59
  go_wp2_with (go_at_call 64; refine (rl18_c x w).mono ?_; rintro r w1 ⟨rfl, rfl⟩)
  go_ret
  exact ⟨rfl, rfl⟩
theorem rl19_c (x : Wd) (w : World) : Calls Try.prog 64 #[.int .u32 (W x), .int .i64 (-19)] w fun r w' => r = .returned (.int .u32 (W (rot 19 x))) ∧ w' = w := by
  have h : bits .or .u32 (W x * 8192 % 4294967296) (W x / 524288) = W (rot 19 x) := by have := W_rot x 19 13 rfl; rw [show (2 : Int) ^ 13 = 8192 from rfl, show (2 : Int) ^ 19 = 524288 from rfl] at this; exact this
  have e : bits BinOp.and IntKind.u64 (IntKind.u64.wrap (-19)) 31 = 13 := by decide +kernel
  go_enter Try.func64, Try.ntmps64
  go_wp2
  go_ret
  exact ⟨rfl, rfl⟩
theorem turn19_c (x : Wd) (w : World) : Calls Try.prog 59 #[.int .u32 (W x), .int .i64 19] w fun r w' => r = .returned (.int .u32 (W (rot 19 x))) ∧ w' = w := by
  go_enter Try.func59, Try.ntmps59
  go_wp2_with (go_at_call 64; refine (rl19_c x w).mono ?_; rintro r w1 ⟨rfl, rfl⟩)
  go_ret
  exact ⟨rfl, rfl⟩
theorem rl22_c (x : Wd) (w : World) : Calls Try.prog 64 #[.int .u32 (W x), .int .i64 (-22)] w fun r w' => r = .returned (.int .u32 (W (rot 22 x))) ∧ w' = w := by
  have h : bits .or .u32 (W x * 1024 % 4294967296) (W x / 4194304) = W (rot 22 x) := by have := W_rot x 22 10 rfl; rw [show (2 : Int) ^ 10 = 1024 from rfl, show (2 : Int) ^ 22 = 4194304 from rfl] at this; exact this
  have e : bits BinOp.and IntKind.u64 (IntKind.u64.wrap (-22)) 31 = 10 := by decide +kernel
  go_enter Try.func64, Try.ntmps64
  go_wp2
  go_ret
  exact ⟨rfl, rfl⟩
theorem turn22_c (x : Wd) (w : World) : Calls Try.prog 59 #[.int .u32 (W x), .int .i64 22] w fun r w' => r = .returned (.int .u32 (W (rot 22 x))) ∧ w' = w := by
  go_enter Try.func59, Try.ntmps59
  go_wp2_with (go_at_call 64; refine (rl22_c x w).mono ?_; rintro r w1 ⟨rfl, rfl⟩)
  go_ret
  exact ⟨rfl, rfl⟩
theorem rl25_c (x : Wd) (w : World) : Calls Try.prog 64 #[.int .u32 (W x), .int .i64 (-25)] w fun r w' => r = .returned (.int .u32 (W (rot 25 x))) ∧ w' = w := by
  have h : bits .or .u32 (W x * 128 % 4294967296) (W x / 33554432) = W (rot 25 x) := by have := W_rot x 25 7 rfl; rw [show (2 : Int) ^ 7 = 128 from rfl, show (2 : Int) ^ 25 = 33554432 from rfl] at this; exact this
  have e : bits BinOp.and IntKind.u64 (IntKind.u64.wrap (-25)) 31 = 7 := by decide +kernel
  go_enter Try.func64, Try.ntmps64
  go_wp2
  go_ret
  exact ⟨rfl, rfl⟩
theorem turn25_c (x : Wd) (w : World) : Calls Try.prog 59 #[.int .u32 (W x), .int .i64 25] w fun r w' => r = .returned (.int .u32 (W (rot 25 x))) ∧ w' = w := by
  go_enter Try.func59, Try.ntmps59
  go_wp2_with (go_at_call 64; refine (rl25_c x w).mono ?_; rintro r w1 ⟨rfl, rfl⟩)
  go_ret
  exact ⟨rfl, rfl⟩

def rotI (n : Int) (x : Wd) : Wd := rot n.toNat x
/-- turn, called with one of the numbers of the rounds. -/
theorem turn_c (x : Wd) (n : Int) (h : n ∈ [(2 : Int), 6, 7, 11, 13, 17, 18, 19, 22, 25]) (w : World) : Calls Try.prog 59 #[.int .u32 (W x), .int .i64 n] w fun r w' => r = .returned (.int .u32 (W (rotI n x))) ∧ w' = w := by
  simp only [List.mem_cons, List.not_mem_nil, or_false] at h
  rcases h with rfl | rfl | rfl | rfl | rfl | rfl | rfl | rfl | rfl | rfl
  · exact turn2_c x w
  · exact turn6_c x w
  · exact turn7_c x w
  · exact turn11_c x w
  · exact turn13_c x w
  · exact turn17_c x w
  · exact turn18_c x w
  · exact turn19_c x w
  · exact turn22_c x w
  · exact turn25_c x w

theorem word_w (z0 z1 z2 z3 : Int) (h0 : 0 ≤ z0 ∧ z0 < 256) (h1 : 0 ≤ z1 ∧ z1 < 256) (h2 : 0 ≤ z2 ∧ z2 < 256) (h3 : 0 ≤ z3 ∧ z3 < 256) :
    bits .or .u32 (bits .or .u32 (bits .or .u32 (z0 * 16777216) (z1 * 65536)) (z2 * 256)) z3 = W (BitVec.ofNat 32 (z0.toNat * 16777216 + z1.toNat * 65536 + z2.toNat * 256 + z3.toNat)) := by
  obtain ⟨a, rfl⟩ := Int.eq_ofNat_of_zero_le h0.1
  obtain ⟨b, rfl⟩ := Int.eq_ofNat_of_zero_le h1.1
  obtain ⟨c, rfl⟩ := Int.eq_ofNat_of_zero_le h2.1
  obtain ⟨d, rfl⟩ := Int.eq_ofNat_of_zero_le h3.1
  have e0 : (a : Int) * 16777216 = W (BitVec.ofNat 32 (a * 16777216)) := by unfold W; rw [BitVec.toNat_ofNat]; omega
  have e1 : (b : Int) * 65536 = W (BitVec.ofNat 32 (b * 65536)) := by unfold W; rw [BitVec.toNat_ofNat]; omega
  have e2 : (c : Int) * 256 = W (BitVec.ofNat 32 (c * 256)) := by unfold W; rw [BitVec.toNat_ofNat]; omega
  have e3 : (d : Int) = W (BitVec.ofNat 32 d) := by unfold W; rw [BitVec.toNat_ofNat]; omega
  rw [e0, e1, e2, e3, W_or, W_or, W_or]
  congr 1
  apply BitVec.eq_of_toNat_eq
  simp only [BitVec.toNat_or, BitVec.toNat_ofNat, Int.toNat_natCast]
  have ha : a < 256 := by omega
  have hb : b < 256 := by omega
  have hc : c < 256 := by omega
  have hd : d < 256 := by omega
  have t0 : a * 16777216 % 2 ^ 32 = a * 2 ^ 24 := Nat.mod_eq_of_lt (by omega)
  have t1 : b * 65536 % 2 ^ 32 = b * 2 ^ 16 := Nat.mod_eq_of_lt (by omega)
  have t2 : c * 256 % 2 ^ 32 = c * 2 ^ 8 := Nat.mod_eq_of_lt (by omega)
  have t3 : d % 2 ^ 32 = d := by omega
  rw [t0, t1, t2, t3]
  have u1 : a * 2 ^ 24 ||| b * 2 ^ 16 = a * 2 ^ 24 + b * 2 ^ 16 := by
    rw [Nat.mul_comm]; exact (Nat.two_pow_add_eq_or_of_lt (i := 24) (by omega) a).symm
  have u2 : (a * 2 ^ 24 + b * 2 ^ 16) ||| c * 2 ^ 8 = a * 2 ^ 24 + b * 2 ^ 16 + c * 2 ^ 8 := by
    rw [show a * 2 ^ 24 + b * 2 ^ 16 = 2 ^ 16 * (a * 256 + b) from by omega]; exact (Nat.two_pow_add_eq_or_of_lt (i := 16) (by omega) _).symm
  have u3 : (a * 2 ^ 24 + b * 2 ^ 16 + c * 2 ^ 8) ||| d = a * 2 ^ 24 + b * 2 ^ 16 + c * 2 ^ 8 + d := by
    rw [show a * 2 ^ 24 + b * 2 ^ 16 + c * 2 ^ 8 = 2 ^ 8 * (a * 65536 + b * 256 + c) from by omega]; exact (Nat.two_pow_add_eq_or_of_lt (i := 8) (by omega) _).symm
  rw [u1, u2, u3]; omega

set_option maxHeartbeats 1000000 in
theorem word_c (b off len cap : Nat) (z0 z1 z2 z3 : Int) (w : World) (h4 : 4 ≤ len)
    (c0 : w.cell? ⟨b, off, none⟩ = some (.int .u8 z0)) (c1 : w.cell? ⟨b, off + 1, none⟩ = some (.int .u8 z1)) (c2 : w.cell? ⟨b, off + 2, none⟩ = some (.int .u8 z2)) (c3 : w.cell? ⟨b, off + 3, none⟩ = some (.int .u8 z3))
    (h0 : 0 ≤ z0 ∧ z0 < 256) (h1 : 0 ≤ z1 ∧ z1 < 256) (h2 : 0 ≤ z2 ∧ z2 < 256) (h3 : 0 ≤ z3 ∧ z3 < 256) :
    Calls Try.prog 52 #[.slice (some ⟨b, off, none⟩) len cap] w fun r w' => r = .returned (.int .u32 (W (BitVec.ofNat 32 (z0.toNat * 16777216 + z1.toNat * 65536 + z2.toNat * 256 + z3.toNat)))) ∧ ∃ k, w' = w.drewN k := by
  have hw := word_w z0 z1 z2 z3 h0 h1 h2 h3
  have i0 : (0 : Int) < len := by omega
  have i1 : (1 : Int) < len := by omega
  have i2 : (2 : Int) < len := by omega
  have i3 : (3 : Int) < len := by omega
  go_enter Try.func52, Try.ntmps52
  go_wp2
  go_quiet (fail)
  go_wp2
  go_ret
  exact ⟨rfl, _, rfl⟩
end Go.Proofs.Ytlfppknpnfeplaa
