/-
  What both Open answer, in one form; the law's own bytes. Condition: at most 2^47 bytes.
-/
import Derived.Test.YtfnfkcafjfhnlaaOpX
import Derived.Test.YtfnfkcafjfhnlaaMem
import Derived.Test.YtfnfkcafjfhnlaaFa
namespace Go.Proofs.Ytfnfkcafjfhnlaa
open Go.RowKit
set_option linter.unusedVariables false

/-- The texts that Open answers: none where it answers an error. -/
def oL (xs : List Int) : List ByteArray := if oans xs = 0 then (ofin xs).l else []
theorem ofin_len {xs : List Int} (h : oans xs = 0) : (ofin xs).l.length = onum xs := by
  have he : (ofin xs).e = 0 := by
    rcases Decidable.em ((ofin xs).e = 0) with q | q
    · exact q
    · rw [oans_err q] at h; exact absurd h q
  unfold ofin at he ⊢
  by_cases hc : (rc xs 0 1048576 2).2.2 ≠ 0
  · rw [if_pos hc] at he; exact absurd he hc
  · rw [if_neg hc] at he ⊢
    exact ogo_len _ he
theorem oL_len {xs : List Int} (hx : Bytes xs) : (oL xs).length ≤ 1048576 := by
  unfold oL
  split
  · rename_i h
    rw [ofin_len h]
    have := rc_bd hx
    unfold onum
    omega
  · simp
def OA (f : FuncId) (a : Option Addr) (len cap : Nat) (xs : List Int) (w : World) : Prop :=
  Calls Try.prog f #[.slice a len cap] w fun r w' => ∃ va vc, r = .returned (.tuple #[.slice va (oL xs).length vc, .int .i64 (oans xs)]) ∧ StrS w' va (oL xs).length (oL xs) ∧ (va = none → vc = 0) ∧ Below w.heap.size w w'
theorem str_nil0 (w : World) : StrS w none 0 [] := ⟨rfl, .inl rfl⟩
theorem open_a (a : Option Addr) (len cap : Nat) (xs : List Int) (w : World) (h : Seg .u8 w a len xs) (hx : Bytes xs) (hlc : len ≤ cap) (hl : len ≤ 140737488355328) (hcm : cap ≤ 9223372036854775807) (hnz : a = none → cap = 0) (hoff : ∀ g, w.heap.size ≤ g → Off a g) : OA 37 a len cap xs w := by
  refine (open_c a len cap xs w h hx hlc hl hcm hnz hoff).mono ?_
  rintro r w' (⟨he, hr, hb⟩ | ⟨he, gl, n, hr, hg, hs, hb⟩)
  · have e : oL xs = [] := if_neg he
    rw [e]
    exact ⟨none, 0, hr, str_nil0 _, fun _ => rfl, hb⟩
  · have e : oL xs = (ofin xs).l := if_pos he
    rw [e]
    obtain rfl := hs.1
    rw [he]
    exact ⟨_, _, hr, hs, (fun q => by cases q), hb⟩
theorem open_x (a : Option Addr) (len cap : Nat) (xs : List Int) (w : World) (h : Seg .u8 w a len xs) (hx : Bytes xs) (hlc : len ≤ cap) (hl : len ≤ 140737488355328) (hcm : cap ≤ 9223372036854775807) : OA 38 a len cap xs w := by
  refine (xopen_c a len cap xs w h hx hlc hl hcm).mono ?_
  rintro r w' (⟨he, hr, hb⟩ | ⟨he, v, hr, ho, hb⟩)
  · have e : oL xs = [] := if_neg he
    rw [e]
    exact ⟨none, 0, hr, str_nil0 _, fun _ => rfl, hb⟩
  · have e : oL xs = (ofin xs).l := if_pos he
    rw [e]
    obtain ⟨va, vc, rfl, hs, hn, _⟩ := ho.str
    rw [he]
    exact ⟨va, vc, hr, hs, hn, hb⟩
/-- The law's own bytes. -/
def zB : List Int := [2, 0, 0, 0, 1, 122]
def sZ : ByteArray := { data := #[122] }
theorem zB_bytes : Bytes zB := by
  have : ∀ i, i < 6 → 0 ≤ zB[i]?.getD 0 ∧ zB[i]?.getD 0 < 256 := by decide
  exact this
theorem zB_lit : oans zB = 0 ∧ oL zB = [ByteArray.empty, sZ] := by decide +kernel
theorem zB_seg (w : World) : Seg .u8 (w.alloc (.cells #[.int .u8 2, .int .u8 0, .int .u8 0, .int .u8 0, .int .u8 1, .int .u8 122] 5 (0, 0))) (some ⟨w.heap.size, 0, none⟩) 6 zB := by
  refine ⟨rfl, .inr ⟨w.heap.size, 0, rfl, by simp, fun i hi => ?_⟩⟩
  rw [Nat.zero_add, cell_of_row _ _ i _ _ _ (heap_new w _)]
  rcases (by omega : i = 0 ∨ i = 1 ∨ i = 2 ∨ i = 3 ∨ i = 4 ∨ i = 5) with rfl | rfl | rfl | rfl | rfl | rfl <;> rfl
theorem zZ_str (w : World) : StrS (w.alloc (.cells #[.string ByteArray.empty, .string sZ] 9 (0, 0))) (some ⟨w.heap.size, 0, none⟩) 2 [ByteArray.empty, sZ] := by
  refine ⟨rfl, .inr ⟨w.heap.size, 0, rfl, by simp, fun i hi => ?_⟩⟩
  rw [Nat.zero_add, cell_of_row _ _ i _ _ _ (heap_new w _)]
  rcases (by omega : i = 0 ∨ i = 1) with rfl | rfl <;> rfl
theorem off_lt {a : Option Addr} {b o : Nat} {B : Nat} (ha : a = some ⟨b, o, none⟩) (hb : b < B) : ∀ g, B ≤ g → Off a g := by
  intro g hg b' o' s e
  rw [ha] at e
  cases e
  omega
theorem zopen (w : World) : Calls Try.prog 37 #[.slice (some ⟨w.heap.size, 0, none⟩) 6 6] (w.alloc (.cells #[.int .u8 2, .int .u8 0, .int .u8 0, .int .u8 0, .int .u8 1, .int .u8 122] 5 (0, 0))) fun r w' => ∃ vz vy, r = .returned (.tuple #[.slice vz 2 vy, .int .i64 0]) ∧ StrS w' vz 2 [ByteArray.empty, sZ] ∧ Below w.heap.size w w' := by
  have hlast := zB_lit
  have h := open_a _ 6 6 zB _ (zB_seg w) zB_bytes (by omega) (by omega) (by omega) (fun q => by cases q) (off_lt rfl (by simp))
  unfold OA at h
  rw [hlast.1, hlast.2] at h
  refine h.mono ?_
  rintro r w' ⟨vz, vy, h1, h2, _, h3⟩
  exact ⟨vz, vy, h1, h2, ((Below.refl _ _).alloc (Nat.le_refl _) _).trans (h3.mono (by simp))⟩
theorem zsame (a : Option Addr) (c : Nat) (w : World) (h : StrS w a 2 [ByteArray.empty, sZ]) : Calls Try.prog 35 #[.slice a 2 c, .slice (some ⟨w.heap.size, 0, none⟩) 2 2] (w.alloc (.cells #[.string { data := #[] }, .string { data := #[122] }] 9 (0, 0))) fun r w' => r = .returned (.bool true) ∧ Below w.heap.size w w' := by
  refine (sameS_c a _ 2 c 2 [ByteArray.empty, sZ] _ (h.below ((Below.refl _ _).alloc (Nat.le_refl _) _)) (zZ_str w) (by omega)).mono ?_
  rintro r w' ⟨h1, h2⟩
  exact ⟨h1, ((Below.refl _ _).alloc (Nat.le_refl _) _).trans (h2.mono (by simp))⟩
end Go.Proofs.Ytfnfkcafjfhnlaa
