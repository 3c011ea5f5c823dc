/-
  What strings.Contains answers of texts that are short enough, as the library's law has it. Condition: the library's own variable holds some number.
-/
import Derived.Test.YtokkhhekmebakaaGreatDoorJKd
import Derived.Test.YtokkhhekmebakaaGreatDoorNSc
namespace Go.Proofs.YtokkhhekmebakaaGreatDoor
open Go.RowKit
set_option linter.unusedVariables false

/-- The library's variable holds some number. -/
def Max (w : World) : Prop := ∃ m, w.cell? ⟨2, 0, none⟩ = some (.int .i64 m)
theorem Max.block {w w' : World} (h : Max w) (hb : w'.heap[2]? = w.heap[2]?) : Max w' := by
  obtain ⟨m, h⟩ := h
  exact ⟨m, (World.cell?_of_block (w := w) (a := ⟨2, 0, none⟩) hb).trans h⟩
theorem Max.pos {w : World} (h : Max w) : 2 < w.heap.size := by
  obtain ⟨m, h⟩ := h
  rcases Nat.lt_or_ge 2 w.heap.size with z | z
  · exact z
  · simp [World.cell?, Array.getElem?_eq_none z] at h
theorem Max.gb {w w' : World} (h : Max w) (hb : w.grownBy w' none) : Max w' := h.block (hb.block _ h.pos (by simp))
/-- Does a text lie within another? -/
def has (s t : ByteArray) : Bool := Lib.contains s.data.toList t.data.toList
theorem contains_c (s t : ByteArray) (w : World) (hs : s.size < 4294967281) (hm : Max w) : Calls Tryz.prog 123 #[.string s, .string t] w fun r w' => r = .returned (.bool (has s t)) ∧ w' = w := by
  obtain ⟨m, hm⟩ := hm
  exact Any.strings_Contains Tryz.cont s t m w hs hm
theorem ttx_small : ∀ k, k < 29 → (ttx k).size < 8 := by decide
theorem wyK_small (n : Int) : (wyK n).size < 4294967281 := by
  unfold wyK
  split
  · rename_i h
    obtain ⟨k, hk, rfl⟩ := kind_at n h
    have := ttx_small k hk
    simp only [Int.toNat_natCast]
    omega
  · show 0 < _
    omega
end Go.Proofs.YtokkhhekmebakaaGreatDoor
