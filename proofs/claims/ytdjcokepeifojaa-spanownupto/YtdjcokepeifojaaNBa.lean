/-
  What the texts of span lean on: worlds that have grown, texts as lists of bytes, ranges as values. No condition of its own.
-/
import Derived.Test.YtdjcokepeifojaaFBk
import Derived.Test.YtdjcokepeifojaaSStr
import Derived.Test.YtdjcokepeifojaaNTx
namespace Go.Proofs.Ytdjcokepeifojaa
set_option linter.unusedVariables false
open Go.RowKit

theorem gb_new {a b c : World} (h : a.grownBy b none) (k : b.grownBy c (some a.heap.size)) : a.grownBy c none :=
  ⟨k.os.trans h.os, k.tape.trans h.tape, k.output.trans h.output, Nat.le_trans h.size k.size, fun i hi hn => (k.block i (Nat.lt_of_lt_of_le hi h.size) (fun e => by cases e; omega)).trans (h.block i hi hn)⟩
theorem gb_newer {a b c : World} {N : Nat} (h : a.grownBy b none) (k : b.grownBy c (some N)) (hN : a.heap.size ≤ N) : a.grownBy c none :=
  ⟨k.os.trans h.os, k.tape.trans h.tape, k.output.trans h.output, Nat.le_trans h.size k.size, fun i hi hn => (k.block i (Nat.lt_of_lt_of_le hi h.size) (fun e => by cases e; omega)).trans (h.block i hi hn)⟩
theorem gb_trans {a b c : World} {row : Option Nat} (h : a.grownBy b row) (k : b.grownBy c row) : a.grownBy c row :=
  ⟨k.os.trans h.os, k.tape.trans h.tape, k.output.trans h.output, Nat.le_trans h.size k.size, fun i hi hn => (k.block i (Nat.lt_of_lt_of_le hi h.size) hn).trans (h.block i hi hn)⟩
theorem gb_below {a b : World} (h : a.grownBy b none) : Below a.heap.size a b := ⟨h.os, h.tape, h.output, h.size, fun i hi => h.block i hi (fun e => by cases e)⟩
theorem below_gb {a b : World} (h : Below a.heap.size a b) : a.grownBy b none := ⟨h.os, h.tape, h.output, h.size, fun i hi _ => h.block i hi⟩
theorem gb_wide {a b : World} (h : a.grownBy b none) (row : Option Nat) : a.grownBy b row := ⟨h.os, h.tape, h.output, h.size, fun i hi _ => h.block i hi (fun e => by cases e)⟩
theorem gb_drewN {a b : World} {row : Option Nat} (h : a.grownBy b row) (n : Nat) : a.grownBy (b.drewN n) row := gb_trans h ⟨rfl, rfl, rfl, Nat.le_refl _, fun _ _ _ => rfl⟩
theorem gb_refl (a : World) : a.grownBy a none := ⟨rfl, rfl, rfl, Nat.le_refl _, fun _ _ _ => rfl⟩
theorem gb_alloc (a : World) (o : Obj) : a.grownBy (a.alloc o) none := World.grownBy_alloc _ _ _

theorem str_size (ts : List Int) : (strOfNums ts).size = ts.length := by
  have := congrArg List.length (strOfNums_data ts)
  simpa using this
theorem str_idx (ts : List Int) (hb : Bytes ts) (k : Nat) (h : k < ts.length) (K : IntKind) (W : World) : Sem.run Try.prog (Instr.index 9 (.string (strOfNums ts)) (.int K (k : Int))) W = .ok (.int .u8 (ts.getD k 0)) W := by
  rw [run_index_string W 9 _ K k Try.underlying9]
  rw [dif_pos ⟨by omega, by rw [str_size]; omega⟩]
  congr 2
  have hd := strOfNums_data ts
  have hk : (k : Int).toNat < (strOfNums ts).data.toList.length := by rw [hd]; simpa using h
  have e : (strOfNums ts)[(k : Int).toNat]'(by rw [str_size]; omega) = (strOfNums ts).data.toList[(k : Int).toNat]'hk := rfl
  rw [e]
  have h2 := hb k h
  simp only [h, List.getElem?_eq_getElem, Option.getD_some] at h2
  simp only [hd, List.getElem_map, Int.toNat_natCast, UInt8.toNat_ofNat']
  simp only [List.getD_eq_getElem?_getD, h, List.getElem?_eq_getElem, Option.getD_some]
  omega
/-- A text's bytes as numbers. -/
def bs (s : ByteArray) : List Int := s.data.toList.map fun b => (b.toNat : Int)
theorem bs_len (s : ByteArray) : (bs s).length = s.size := by rw [bs, List.length_map, Array.length_toList]; rfl
theorem bs_bytes (s : ByteArray) : Bytes (bs s) := bytes_of_mem fun z hz => by
  simp only [bs, List.mem_map] at hz
  obtain ⟨b, _, rfl⟩ := hz
  have := b.toNat_lt
  omega
theorem str_bs (s : ByteArray) : strOfNums (bs s) = s := by
  apply Go.WideShapes.bytes_inj
  rw [strOfNums_data, bs, List.map_map]
  refine (List.map_congr_left fun b _ => ?_).trans (List.map_id _)
  simp
theorem bs_str (ts : List Int) (hb : Bytes ts) : bs (strOfNums ts) = ts := by
  apply strOfNums_inj (bs_bytes _) hb
  rw [str_bs]
theorem bs_inj {s t : ByteArray} (h : bs s = bs t) : s = t := by rw [← str_bs s, ← str_bs t, h]
theorem bs_idx (s : ByteArray) (k : Nat) (h : k < s.size) (K : IntKind) (W : World) : Sem.run Try.prog (Instr.index 9 (.string s) (.int K (k : Int))) W = .ok (.int .u8 ((bs s).getD k 0)) W := by
  have := str_idx (bs s) (bs_bytes s) k (by rw [bs_len]; exact h) K W
  rwa [str_bs] at this
theorem bs_bd (s : ByteArray) (k : Nat) : 0 ≤ (bs s).getD k 0 ∧ (bs s).getD k 0 < 256 := by
  by_cases h : k < (bs s).length
  · have := bs_bytes s k h
    rw [List.getD_eq_getElem?_getD]; exact this
  · rw [List.getD_eq_getElem?_getD, List.getElem?_eq_none (by omega)]; simp
theorem bs_none (s : ByteArray) : bs s = [] ↔ s = .empty := by
  constructor
  · intro h; rw [← str_bs s, h]; rfl
  · rintro rfl; rfl
theorem tl_bs (s t : ByteArray) : tl s t = Op.bytesLess s.data.toList t.data.toList := by unfold tl; rw [ByteArray.toList_eq, ByteArray.toList_eq]
theorem size_none (s : ByteArray) : s.size = 0 ↔ s = .empty := by
  rw [← bs_len, ← bs_none, List.length_eq_zero_iff]
/-- Bytes as cells. -/
def u8s (xs : List Int) : Array Value := (xs.map (Value.int .u8)).toArray
theorem u8s_size (xs : List Int) : (u8s xs).size = xs.length := by simp [u8s]
theorem u8s_one (xs : List Int) : (u8s xs).all (·.oneCell') = true := by
  rw [Array.all_eq_true_iff_forall_mem]
  intro v hv
  simp only [u8s, List.mem_toArray, List.mem_map] at hv
  obtain ⟨z, _, rfl⟩ := hv
  rfl
theorem u8s_at (l : List Int) (i : Nat) (h : i < l.length) : (u8s l)[i]? = some (.int .u8 (l.getD i 0)) := by
  simp [u8s, h]
theorem u8s_set (l : List Int) (i : Nat) (x : Int) : (u8s l).setIfInBounds i (.int .u8 x) = u8s (l.set i x) := by
  simp [u8s, List.map_set]
/-- A block of bytes as a slice. -/
theorem seg_bk {w : World} {b : Nat} {xs : List Int} (h : Bk 5 w b (u8s xs)) : Seg .u8 w (some ⟨b, 0, none⟩) xs.length xs := by
  refine ⟨rfl, .inr ⟨b, 0, rfl, lt_of_block h, fun i hi => ?_⟩⟩
  rw [Nat.zero_add, h.cell, u8s_at _ _ hi]
  simp
/-- A range as a value. -/
def rv (r : Rg) : Value := .agg #[.string r.1, .string r.2]

end Go.Proofs.Ytdjcokepeifojaa
