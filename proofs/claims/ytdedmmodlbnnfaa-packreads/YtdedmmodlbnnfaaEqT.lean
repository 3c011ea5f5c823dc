/-
  Digests and rows are equal to themselves, as the program compares them.
-/
import Derived.Test.YtdedmmodlbnnfaaPRow
import Derived.Test.YtdedmmodlbnnfaaPDig
import Derived.Stop.BytesEq
namespace Go.Proofs.Ytdedmmodlbnnfaa
open Go.RowKit
set_option linter.unusedVariables false

theorem cell_of (b : Int) (h0 : 0 ≤ b) (h1 : b < 256) : Value.int .u8 b = Extern.Stop.cell (UInt8.ofNat b.toNat) := by
  have e : ((UInt8.ofNat b.toNat).toNat : Int) = b := by simp [UInt8.toNat_ofNat']; omega
  show _ = Value.int .u8 (((UInt8.ofNat b.toNat).toNat : Nat) : Int)
  rw [e]
theorem u8s_cells (ds : List Int) (h : Bytes ds) : u8s ds = ((ds.map fun b => UInt8.ofNat b.toNat).map Extern.Stop.cell).toArray := by
  unfold u8s
  rw [List.map_map]
  congr 1
  apply List.map_congr_left
  intro b hb
  obtain ⟨i, hi, rfl⟩ := List.getElem_of_mem hb
  have := h i hi
  simp [hi] at this
  exact cell_of _ this.1 this.2
theorem eqD (ds : List Int) (hd : Bytes ds) (hl : ds.length = 32) (w : World) : (Op.equalIn 10000 69 (.agg (u8s ds)) (.agg (u8s ds))).run Try.prog w = .ok true w := by
  have := run_equalIn_bytes (P := Try.prog) w 9998 69 5 32 Try.underlying69 Try.underlying5 (fun _ => by kernel_rfl) (ds.map fun b => UInt8.ofNat b.toNat) (ds.map fun b => UInt8.ofNat b.toNat) (by simpa using hl) (by simpa using hl)
  rw [u8s_cells ds hd, this, beq_self_eq_true]
theorem eqRow' (d : Nat) (k v : List Int) (n : Int) (w : World) : (Op.equalIn (d + 2) 37 (.agg (rowV k v n)) (.agg (rowV k v n))).run Try.prog w = .ok true w := by
  have hs : ∀ s, (Op.equalIn (d + 1) 9 (.string s) (.string s)).run Try.prog w = .ok true w := by intro s; simp [Op.equalIn, run_underlying Try.underlying9]; cases s; rename_i dt; show (dt == dt) = true; exact beq_self_eq_true dt
  have hi : ∀ n, (Op.equalIn (d + 1) 3 (.int .i64 n) (.int .i64 n)).run Try.prog w = .ok true w := by intro s; simp [Op.equalIn, run_underlying Try.underlying3]
  rw [Op.equalIn]
  simp [run_underlying Try.underlying37, part, isAgg, run_underlying Try.underlying9, run_underlying Try.underlying3, hs, hi, rowV]
theorem eqRow (k v : List Int) (n : Int) (w : World) : (Op.equalIn 10000 37 (.agg (rowV k v n)) (.agg (rowV k v n))).run Try.prog w = .ok true w := eqRow' 9998 k v n w
end Go.Proofs.Ytdedmmodlbnnfaa
