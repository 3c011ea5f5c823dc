/-
  What the document's Joined answers, called with whatever parts: their bytes, one behind the other, in memory of its own. Condition: the parts can be read, and are together at most 2^20 bytes.
-/
import Derived.Test.YtlfijnegmnploaaDoorRows
import Derived.Test.YtlfijnegmnploaaDoorParts
import Derived.Test.YtlfijnegmnploaaDoorGrow
namespace Go.Proofs.YtlfijnegmnploaaDoor
set_option linter.unusedVariables false
open Go.RowKit

theorem flat_le (X : List (List Int)) (k : Nat) : (X.take k).flatten.length ≤ X.flatten.length := by
  have : X.flatten = (X.take k).flatten ++ (X.drop k).flatten := by rw [← List.flatten_append, List.take_append_drop]
  rw [this, List.length_append]; omega
set_option maxHeartbeats 1000000 in
theorem joined_c (a : Option Addr) (n cap : Nat) (X : List (List Int)) (w : World) (hp : Parts w a n X) (hl : X.flatten.length + n ≤ 1048576) :
    Calls Tryd.prog 12 #[.slice a n cap] w fun e w' => ∃ v, e = .returned v ∧ Own w.heap.size w' v X.flatten.length X.flatten ∧ Below w.heap.size w w' := by
  have HP : Hid (Parts w a n X) := hp
  have HLN : Hid (X.length = n) := hp.1
  clear hp
  go_enter Tryd.func12, Tryd.ntmps12
  go_wp2
  go_loopw [3, 4] (fun u i wr => ∃ k : Nat, k ≤ n ∧ i = .int .i64 k ∧ Hid (Own w.heap.size wr u (X.take k).flatten.length (X.take k).flatten) ∧ Hid (Below w.heap.size w wr)) (fun _ i _ => n - (intOf i).toNat)
  case atStart => exact ⟨0, Nat.zero_le _, rfl, own_nil _ _, Below.refl _ _⟩
  case round =>
    obtain ⟨k, hk, rfl, ho, hb⟩ := hrel
    by_cases hlt : k < n
    · obtain ⟨b, off, rfl, hbw, hc⟩ := HP.out.2.resolve_left (by omega)
      obtain ⟨pa, pl, pc, hcell, h2, h3, h4, h5⟩ := hc k hlt
      have hcell' := (hb.out.cell (p := ⟨b, off + k, none⟩) hbw).trans hcell
      have HSP : Hid (Seg .u8 wr pa pl (X[k]?.getD [])) := h2.below hb.out
      have HN5 : Hid (pa = none → pc = 0) := h5
      have HF : Hid ((X.take (k + 1)).flatten = (X.take k).flatten ++ X[k]?.getD []) := flat_snoc X k (by rw [HLN.out]; exact hlt)
      have hfl := flat_le X k
      have HFL : Hid ((X.take (k + 1)).flatten.length = (X.take k).flatten.length + pl) := by
        show _ = _; rw [HF.out, List.length_append, HSP.out.1]
      clear hc h2 h3 h5 hcell
      go_wp2_with (at_builtin; go_must (refine wpList_append_grow _ rfl _ _ rfl w.heap.size _ _ _ rfl ho.out pa pl pc _ rfl HN5.out HSP.out (by omega) hb.out.size ?_); intro v5 w5 ho5 hb5)
      have HO5 : Hid (Own w.heap.size w5 v5 (X.take (k + 1)).flatten.length (X.take (k + 1)).flatten) := by
        rw [HFL.out, HF.out]; exact ho5
      have HB5 : Hid (Below w.heap.size w w5) := hb.out.trans hb5
      clear ho5 hb5
      go_roundw
      case rel => exact ⟨k + 1, by omega, by go_num, HO5, HB5⟩
      case measure => simp [intOf]; omega
    · have HE : Hid (X.take k = X) := by
        show _ = _
        exact List.take_of_length_le (by rw [HLN.out]; omega)
      go_wp2
      go_ret
      refine ⟨_, rfl, ?_, hb.out⟩
      have := ho.out
      rw [HE.out] at this
      exact this

end Go.Proofs.YtlfijnegmnploaaDoor
