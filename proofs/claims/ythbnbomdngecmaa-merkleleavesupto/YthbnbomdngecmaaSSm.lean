/-
  What sha's Sum answers: the digest of the parts, one behind the other. Condition: they can be read, and are fewer than 2^61 bytes.
-/
import Derived.Test.YthbnbomdngecmaaSSu
namespace Go.Proofs.Ythbnbomdngecmaa
set_option linter.unusedVariables false
open Go.RowKit

/-- Parts that can be read. -/
def SParts (w : World) (a : Option Addr) (n : Nat) (X : List (List Int)) : Prop :=
  X.length = n ∧ (n = 0 ∨ ∃ b off, a = some ⟨b, off, none⟩ ∧ b < w.heap.size ∧ ∀ i, i < n → ∃ pa pl pc, w.cell? ⟨b, off + i, none⟩ = some (.slice pa pl pc) ∧ Seg .u8 w pa pl (X[i]?.getD []) ∧ Bytes (X[i]?.getD []) ∧ pl ≤ pc ∧ pc ≤ 9223372036854775807)
theorem flat_take (X : List (List Int)) (k : Nat) (h : k < X.length) : (X.take (k + 1)).flatten = (X.take k).flatten ++ X[k]?.getD [] := by
  rw [List.take_succ_eq_append_getElem h, List.flatten_append]
  simp [h]
theorem flat_len_le (X : List (List Int)) (k : Nat) : (X.take k).flatten.length ≤ X.flatten.length := by
  have h : X.flatten = (X.take k).flatten ++ (X.drop k).flatten := by rw [← List.flatten_append, List.take_append_drop]
  rw [h, List.length_append]; omega
theorem bytes_flat {X : List (List Int)} (h : ∀ l ∈ X, Bytes l) : Bytes X.flatten := bytes_of_mem fun z hz => by
  obtain ⟨l, hl, hz⟩ := List.mem_flatten.1 hz
  exact (h l hl).mem z hz
theorem SParts.bytes {w a n X} (h : SParts w a n X) : ∀ l ∈ X, Bytes l := by
  intro l hl
  obtain ⟨i, hi, rfl⟩ := List.getElem_of_mem hl
  rcases h.2 with h0 | ⟨b, off, ha, hlt, hc⟩
  · have := h.1; omega
  · obtain ⟨pa, pl, pc, _, _, h3, _⟩ := hc i (by rw [← h.1]; exact hi)
    simpa [hi] using h3
theorem seg_far0 {w : World} {pa : Option Addr} {pl : Nat} {xs : List Int} {N : Nat} (h : Seg .u8 w pa pl xs) (hN : w.heap.size ≤ N) : Far N pa pl := by
  rcases h.2 with h0 | ⟨b, off, ha, hlt, _⟩
  · exact .inl h0
  · exact .inr ⟨b, off, ha, by omega⟩
end Go.Proofs.Ythbnbomdngecmaa
