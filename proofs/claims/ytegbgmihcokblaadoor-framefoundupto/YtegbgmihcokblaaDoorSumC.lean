/-
  What crc.Sum answers, called with whatever parts. Condition: the table lies in memory as the program's text lays it; the parts can be read.
-/
import Derived.Test.YtegbgmihcokblaaDoorRows
import Derived.Test.YtegbgmihcokblaaDoorFa
namespace Go.Proofs.YtegbgmihcokblaaDoor
set_option linter.unusedVariables false
open Go.RowKit

/-- A slice of slices of bytes that can be read: these are its elements. -/
def Segs (w : World) (a : Option Addr) (n : Nat) (X : List (List Int)) : Prop :=
  X.length = n ∧ (n = 0 ∨ ∃ b off, a = some ⟨b, off, none⟩ ∧ b < w.heap.size ∧ ∀ i, i < n → ∃ pa pl pc, w.cell? ⟨b, off + i, none⟩ = some (.slice pa pl pc) ∧ Seg .u8 w pa pl (X[i]?.getD []) ∧ Bytes (X[i]?.getD []) ∧ pl ≤ 1125899906842624)
theorem Segs.below {w w' : World} {a : Option Addr} {n : Nat} {X : List (List Int)} (h : Segs w a n X) (hb : Below w.heap.size w w') : Segs w' a n X := by
  refine ⟨h.1, ?_⟩
  rcases h.2 with h0 | ⟨b, off, ha, hlt, hc⟩
  · exact .inl h0
  · have := hb.size
    refine .inr ⟨b, off, ha, by omega, fun i hi => ?_⟩
    obtain ⟨pa, pl, pc, h1, h2, h3⟩ := hc i hi
    exact ⟨pa, pl, pc, (hb.cell (p := ⟨b, off + i, none⟩) hlt).trans h1, h2.below hb, h3⟩
/-- A list of one part, that a call makes. -/
theorem segs_one {w : World} {a : Option Addr} {len cap : Nat} {xs : List Int} (T : TypeId) (h : Seg .u8 w a len xs) (hx : Bytes xs) (hl : len ≤ 1125899906842624) :
    Segs (w.alloc (.cells #[.slice a len cap] T)) (some ⟨w.heap.size, 0, none⟩) 1 [xs] := by
  refine ⟨rfl, .inr ⟨_, _, rfl, by simp, fun i hi => ?_⟩⟩
  obtain rfl : i = 0 := by omega
  refine ⟨a, len, cap, ?_, ?_, hx, hl⟩
  · rw [World.cell?_alloc_new]; rfl
  · exact h.below ((Below.refl _ _).alloc (Nat.le_refl _) _)
theorem segs_at {w : World} {a : Option Addr} {len cap : Nat} {xs : List Int} (n0 : Nat) (T : TypeId) (h0 : n0 = w.heap.size) (h : Seg .u8 w a len xs) (hx : Bytes xs) (hl : len ≤ 1125899906842624) :
    Segs (w.alloc (.cells #[.slice a len cap] T)) (some ⟨n0, 0, none⟩) 1 [xs] := by
  subst h0; exact segs_one T h hx hl
theorem segs_nil (w : World) (a : Option Addr) : Segs w a 0 [] := ⟨rfl, .inl rfl⟩

def ones : Wd := BitVec.allOnes 32
/-- The sum of bytes. -/
def sum (xs : List Int) : Wd := ~~~ (reg ones xs)

theorem flat_snoc (X : List (List Int)) (k : Nat) (h : k < X.length) : (X.take (k + 1)).flatten = (X.take k).flatten ++ X[k]?.getD [] := by
  rw [List.take_succ_eq_append_getElem h, List.flatten_append]; simp [h]

theorem sum_c (a : Option Addr) (n cap : Nat) (X : List (List Int)) (w : World) (hseg : Segs w a n X) (ht : Tab w) (hn : n ≤ 1125899906842624) :
    Calls Tryd.prog 57 #[.slice a n cap] w fun e w' => e = .returned (.int .u32 (W (sum X.flatten))) ∧ w' = w := by
  obtain ⟨hlen, hseg⟩ := hseg
  have HL : Hid (X.length = n) := hlen
  have HT : Hid (Tab w) := ht
  clear ht
  go_enter Tryd.func57, Tryd.ntmps57
  go_wp2
  go_loop [3, 8] (fun r i => ∃ k : Nat, k ≤ n ∧ i = .int .i64 k ∧ r = .int .u32 (W (sum (X.take k).flatten))) (fun _ i => n - (intOf i).toNat)
  case atStart => exact ⟨0, Nat.zero_le _, rfl, congrArg (Value.int .u32) (show (0 : Int) = W (~~~ ones) by decide +kernel)⟩
  case round =>
    obtain ⟨k, hk, rfl, rfl⟩ := hrel
    by_cases hlt : k < n
    · obtain ⟨b, off, rfl, hbw, hc⟩ := hseg.resolve_left (by omega)
      obtain ⟨pa, pl, pc, hcell, h2, h3, h4⟩ := hc k hlt
      have HC := more_c (sum (X.take k).flatten) pa pl pc _ w h2 h3 HT.out h4
      have e : ~~~ (reg (~~~ (sum (X.take k).flatten)) (X[k]?.getD [])) = sum (X.take (k + 1)).flatten := by
        unfold sum
        rw [BitVec.not_not, flat_snoc X k (by omega), reg_append]
      rw [e] at HC
      replace HC : Hid _ := HC
      clear hc h2 h3 e hlen
      go_wp2_with (go_at_call 66; go_must (refine Calls.mono HC.out ?_); rintro e w' ⟨rfl, rfl⟩)
      go_round
      case rel => exact ⟨k + 1, by omega, by go_num, rfl⟩
      case measure => simp [intOf]; omega
    · have HK : Hid (X.take k = X) := by
        show X.take k = X
        exact List.take_of_length_le (by omega)
      rw [HK.out]
      clear hseg hlen
      go_wp2
      go_ret
      exact ⟨rfl, rfl⟩

end Go.Proofs.YtegbgmihcokblaaDoor
