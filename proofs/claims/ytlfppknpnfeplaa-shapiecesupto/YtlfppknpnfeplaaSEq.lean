/-
  Digests are equal to themselves, as the program compares them; and any two are, just if their bytes are alike.
-/
import Derived.Test.YtlfppknpnfeplaaSBl
import Derived.Stop.BytesEq
namespace Go.Proofs.Ytlfppknpnfeplaa
open Go.RowKit
set_option linter.unusedVariables false

theorem cell_of (b : Int) (h0 : 0 ≤ b) (h1 : b < 256) : Value.int .u8 b = Extern.Stop.cell (UInt8.ofNat b.toNat) := by
  have e : ((UInt8.ofNat b.toNat).toNat : Int) = b := by simp [UInt8.toNat_ofNat']; omega
  show _ = Value.int .u8 (((UInt8.ofNat b.toNat).toNat : Nat) : Int)
  rw [e]
theorem u8s_cells (ds : List Int) (h : Bytes ds) : u8s ds = ((ds.map fun b => UInt8.ofNat b.toNat).map Extern.Stop.cell).toArray := by
  unfold u8s
  rw [List.map_map]
  congr 1
  apply List.map_congr_left
  intro b hb
  obtain ⟨i, hi, rfl⟩ := List.getElem_of_mem hb
  have := h i hi
  simp [hi] at this
  exact cell_of _ this.1 this.2
theorem eqD (ds : List Int) (hd : Bytes ds) (hl : ds.length = 32) (w : World) : (Op.equalIn 10000 37 (.agg (u8s ds)) (.agg (u8s ds))).run Try.prog w = .ok true w := by
  have := run_equalIn_bytes (P := Try.prog) w 9998 37 5 32 Try.underlying37 Try.underlying5 (fun _ => by kernel_rfl) (ds.map fun b => UInt8.ofNat b.toNat) (ds.map fun b => UInt8.ofNat b.toNat) (by simpa using hl) (by simpa using hl)
  rw [u8s_cells ds hd, this, beq_self_eq_true]
end Go.Proofs.Ytlfppknpnfeplaa
