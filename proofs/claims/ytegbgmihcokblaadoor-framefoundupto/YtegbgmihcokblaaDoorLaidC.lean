/-
  What crc.laid answers, and crc.overX and crc.Tail: a word's four bytes, the lowest first. No condition.
-/
import Derived.Test.YtegbgmihcokblaaDoorRows
import Derived.Test.YtegbgmihcokblaaDoorFa
import Derived.Below
import Derived.Test.YtegbgmihcokblaaDoorMrow
namespace Go.Proofs.YtegbgmihcokblaaDoor
set_option linter.unusedVariables false
open Go.RowKit

/-- A word's bytes as an array. -/
def arr4 (t : Wd) : Value := .agg ((by4 t).map (Value.int .u8)).toArray

theorem arr4_is (t : Wd) (V : Int) (h : V = W t) : arr4 t = .agg #[.int .u8 (V % 256), .int .u8 (V / 256 % 256), .int .u8 (V / 65536 % 256), .int .u8 (V / 16777216)] := by
  have e : ∀ a b c d a' b' c' d' : Int, a = a' → b = b' → c = c' → d = d' → Value.agg #[.int .u8 a, .int .u8 b, .int .u8 c, .int .u8 d] = Value.agg #[.int .u8 a', .int .u8 b', .int .u8 c', .int .u8 d'] := by
    rintro _ _ _ _ _ _ _ _ rfl rfl rfl rfl; rfl
  have := t.isLt
  subst h
  exact e _ _ _ _ _ _ _ _ (by unfold W; omega) (by unfold W; omega) (by unfold W; omega) (by unfold W; omega)
theorem arr4_ex (t : Wd) : ∃ b0 b1 b2 b3 : Int, arr4 t = .agg #[.int .u8 b0, .int .u8 b1, .int .u8 b2, .int .u8 b3] ∧ by4 t = [b0, b1, b2, b3] := ⟨_, _, _, _, rfl, rfl⟩
theorem by4_bytes (t : Wd) : ∀ z ∈ by4 t, 0 ≤ z ∧ z < 256 := by
  intro z hz
  unfold by4 at hz
  simp only [List.mem_cons, List.not_mem_nil, or_false] at hz
  rcases hz with rfl | rfl | rfl | rfl <;> omega
/-- A new variable of four bytes, as a call that made memory of its own behind it leaves it. -/
theorem var4 {w w2 : World} {C : Array Value} {T : TypeId} (h : Below (w.alloc (.cells C T)).heap.size (w.alloc (.cells C T)) w2) (hC : C = #[.int .u8 0, .int .u8 0, .int .u8 0, .int .u8 0]) :
    ∀ i, i < 4 → w2.cell? ⟨w.heap.size, i, none⟩ = some (.int .u8 0) ∧ w2.frozen? ⟨w.heap.size, i, none⟩ = false := by
  intro i hi
  subst hC
  refine ⟨?_, ?_⟩
  · rw [h.cell (by simp), World.cell?_alloc_new]
    match i, hi with
    | 0, _ => rfl
    | 1, _ => rfl
    | 2, _ => rfl
    | 3, _ => rfl
  · rw [h.frozen (by simp)]
    have hb : (w.alloc (.cells #[.int .u8 0, .int .u8 0, .int .u8 0, .int .u8 0] T)).heap[w.heap.size]? = some (.cells #[.int .u8 0, .int .u8 0, .int .u8 0, .int .u8 0] T (0, 0)) := by
      show (w.heap.push _)[w.heap.size]? = _
      rw [Array.getElem?_push, if_pos rfl]
    exact frozen_of_row _ _ i _ T hb
theorem laid_c (t : Wd) (w : World) :
    Calls Tryd.prog 56 #[.int .u32 (W t)] w fun e w' => e = .returned (arr4 t) ∧ Below w.heap.size w w' := by
  obtain ⟨V, hV⟩ : ∃ V : Int, V = W t := ⟨_, rfl⟩
  have h0 := W_nn t
  have h1 := W_lt t
  rw [← hV] at h0 h1 ⊢
  have HV : Hid (V = W t) := hV
  clear hV
  go_enter Tryd.func56, Tryd.ntmps56
  go_wp2
  refine bodyPost_ret (v := .agg #[.int .u8 (V % 256), .int .u8 (V / 256 % 256), .int .u8 (V / 65536 % 256), .int .u8 (V / 16777216)]) (by simp [results, Tryd.results56, go_sem]) rfl ⟨?_, (Below.refl _ _).alloc (Nat.le_refl _) _⟩
  rw [arr4_is t V HV.out]

end Go.Proofs.YtegbgmihcokblaaDoor
