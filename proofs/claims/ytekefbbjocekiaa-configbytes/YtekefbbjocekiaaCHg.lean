/-
  What Encode answers of any configuration, the program's and the document's. Condition: the chain can be read.
-/
import Derived.Test.YtekefbbjocekiaaCHf
import Derived.Test.YtekefbbjocekiaaStr
namespace Go.Proofs.Ytekefbbjocekiaa
open Go.RowKit
set_option linter.unusedVariables false

/-- The bytes of any configuration: none, if it may not be. -/
def cBu (e : Int) (xs : List Int) : List Int := if chk e xs = 0 then cBy e xs else []
/-- What both Encodes answer. -/
def EncA (w : World) (e : Int) (xs : List Int) (r : Ending) (w' : World) : Prop := ∃ a' c', r = .returned (.tuple #[.slice a' (cBu e xs).length c', .int .i64 (chk e xs)]) ∧ Seg .u8 w' a' (cBu e xs).length (cBu e xs) ∧ Below w.heap.size w w'
theorem qencode_no (e : Int) (a : Option Addr) (n c : Nat) (xs : List Int) (w : World) (h : Seg .i64 w a n xs) (hnc : n ≤ c) (hk : chk e xs ≠ 0) :
    Calls Try.prog 34 #[.agg #[.int .i64 e, .slice a n c]] w fun r w' => r = .returned (.tuple #[.slice none 0 0, .int .i64 (chk e xs)]) ∧ Below w.heap.size w w' := by
  have HC : Hid _ := qcheck_c e a n c xs _ (h.below (alloc_b w (.cells #[.int .i64 e, .slice a n c] 33))) hnc
  have HB : Hid (Below w.heap.size w (w.alloc (.cells #[.int .i64 e, .slice a n c] 33))) := alloc_b _ _
  have hck : (chk e xs != 0) = true := by simpa using hk
  clear h hk
  go_enter Try.func34, Try.ntmps34
  go_wp2_with (go_at_call 14; go_must (refine (Calls.mono HC.out ?_)); rintro r w1 ⟨rfl, hb⟩; have H1 : Hid (Below w.heap.size w w1) := HB.out.trans (hb.mono HB.out.size); clear hb)
  go_ret2
  exact ⟨rfl, H1.out⟩
theorem enc_any (e : Int) (a : Option Addr) (n c : Nat) (xs : List Int) (w : World) (h : Seg .i64 w a n xs) : Calls Try.prog 33 #[.agg #[.int .i64 e, .slice a n c]] w (EncA w e xs) := by
  by_cases hk : chk e xs = 0
  · have hY : cBu e xs = cBy e xs := if_pos hk
    refine (cencode_c e a n c xs w h hk).mono ?_
    rintro r w' ⟨a', c', h1, h2, h3⟩
    exact ⟨a', c', by rw [h1, hY, hk], by rw [hY]; exact h2, h3⟩
  · have hY : cBu e xs = [] := if_neg hk
    refine (cencode_no e a n c xs w h hk).mono ?_
    rintro r w' ⟨h1, h3⟩
    exact ⟨none, 0, by rw [h1, hY]; rfl, by rw [hY]; exact ⟨rfl, .inl rfl⟩, h3⟩
theorem qenc_any (e : Int) (a : Option Addr) (n c : Nat) (xs : List Int) (w : World) (h : Seg .i64 w a n xs) (hnc : n ≤ c) : Calls Try.prog 34 #[.agg #[.int .i64 e, .slice a n c]] w (EncA w e xs) := by
  by_cases hk : chk e xs = 0
  · have hY : cBu e xs = cBy e xs := if_pos hk
    refine (qencode_c e a n c xs w h hnc hk).mono ?_
    rintro r w' ⟨a', c', h1, h2, h3⟩
    obtain ⟨a2, c2, e2, hs, _⟩ := h2.seg
    cases e2
    exact ⟨a', c', by rw [h1, hY, hk], by rw [hY]; exact hs, h3⟩
  · have hY : cBu e xs = [] := if_neg hk
    refine (qencode_no e a n c xs w h hnc hk).mono ?_
    rintro r w' ⟨h1, h3⟩
    exact ⟨none, 0, by rw [h1, hY]; rfl, by rw [hY]; exact ⟨rfl, .inl rfl⟩, h3⟩
theorem cBu_lit : cBu 4 [2, 5, 1] = [4, 3, 2, 5, 1] ∧ chk 4 [2, 5, 1] = 0 := by
  have hk : chk 4 [2, 5, 1] = 0 := by decide
  refine ⟨?_, hk⟩
  unfold cBu
  rw [if_pos hk]
  unfold cBy
  rw [show (4 : Int).toNat = 4 from rfl, enc_small (by decide)]
  rfl
theorem str_lit : strOfNums [4, 3, 2, 5, 1] = ({ data := #[4, 3, 2, 5, 1] } : ByteArray) := by rfl
theorem cstr {w : World} {a : Option Addr} {c : Nat} {ys : List Int} (h : Seg .u8 w a ys.length ys) : (convert 49 9 (.slice a ys.length c)).run Try.prog w = .ok (.string (strOfNums ys)) w :=
  seg_string 49 9 5 c h Try.underlying49 Try.underlying5 Try.underlying9
theorem cstr5 {w : World} {a : Option Addr} {c : Nat} (h : Seg .u8 w a [(4 : Int), 3, 2, 5, 1].length [4, 3, 2, 5, 1]) : (convert 49 9 (.slice a 5 c)).run Try.prog w = .ok (.string { data := #[4, 3, 2, 5, 1] }) w := by
  have := cstr (c := c) h
  rw [str_lit] at this
  exact this
end Go.Proofs.Ytekefbbjocekiaa
