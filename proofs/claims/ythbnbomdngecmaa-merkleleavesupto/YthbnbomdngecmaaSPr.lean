/-
  What sha's Print answers: two digits a byte. Condition: the digest has 32 bytes.
-/
import Derived.Test.YthbnbomdngecmaaSBl
import Derived.Test.YthbnbomdngecmaaSStr
namespace Go.Proofs.Ythbnbomdngecmaa
set_option linter.unusedVariables false
open Go.RowKit

/-- The digit of a value below 16. -/
def hx (v : Int) : Int := if v < 10 then 48 + v else 87 + v
/-- The text of bytes. -/
def ptx (ds : List Int) : List Int := ds.flatMap fun c => [hx (c / 16), hx (c % 16)]
theorem ptx_app (a b : List Int) : ptx (a ++ b) = ptx a ++ ptx b := by unfold ptx; rw [List.flatMap_append]
theorem ptx_len (ds : List Int) : (ptx ds).length = 2 * ds.length := by
  induction ds with
  | nil => rfl
  | cons c ds ih =>
    rw [show c :: ds = [c] ++ ds from rfl, ptx_app, List.length_append, ih, List.length_append]
    show 2 + _ = _
    simp only [List.length_cons, List.length_nil]; omega
theorem ptx_snoc (ds : List Int) (k : Nat) (h : k < ds.length) : ptx (ds.take (k + 1)) = ptx (ds.take k) ++ [hx (ds.getD k 0 / 16), hx (ds.getD k 0 % 16)] := by
  rw [List.take_succ_eq_append_getElem h, ptx_app]
  congr 1
  simp [ptx, h]
theorem hx_bd (v : Int) (h : 0 ≤ v ∧ v < 16) : 0 ≤ hx v ∧ hx v < 256 := by unfold hx; split <;> omega
def digs : ByteArray := { data := #[48, 49, 50, 51, 52, 53, 54, 55, 56, 57, 97, 98, 99, 100, 101, 102] }
theorem digs_at (v : Int) (h : 0 ≤ v ∧ v < 16) : ((digs[v.toNat]!).toNat : Int) = hx v := by
  obtain ⟨n, rfl⟩ := Int.eq_ofNat_of_zero_le h.1
  have : ∀ n : Fin 16, ((digs[n.val]!).toNat : Int) = hx (n.val : Int) := by decide +kernel
  exact this ⟨n, by omega⟩
/-- The text so far, and zeros. -/
def txz (ds : List Int) (k : Nat) : List Int := ptx (ds.take k) ++ List.replicate (64 - 2 * k) 0
theorem txz_len (ds : List Int) (k : Nat) (hl : ds.length = 32) (h : k ≤ 32) : (txz ds k).length = 64 := by simp [txz, ptx_len]; omega
theorem u8s_set (l : List Int) (i : Nat) (x : Int) : (u8s l).setIfInBounds i (.int .u8 x) = u8s (l.set i x) := by
  simp [u8s, List.map_set]
theorem txz_set (ds : List Int) (k : Nat) (hl : ds.length = 32) (h : k < 32) : ((txz ds k).set (2 * k) (hx (ds.getD k 0 / 16))).set (2 * k + 1) (hx (ds.getD k 0 % 16)) = txz ds (k + 1) := by
  unfold txz
  have e : (ptx (ds.take k)).length = 2 * k := by rw [ptx_len, List.length_take]; omega
  rw [ptx_snoc ds k (by omega), show 64 - 2 * k = (64 - 2 * (k + 1)) + 1 + 1 from by omega, List.replicate_succ, List.replicate_succ, List.set_append_right _ _ (by omega), e, Nat.sub_self, List.set_cons_zero, List.set_append_right _ _ (by omega), e, show 2 * k + 1 - 2 * k = 1 from by omega, List.set_cons_succ, List.set_cons_zero]
  simp
theorem txz_end (ds : List Int) (hl : ds.length = 32) : txz ds 32 = ptx ds := by unfold txz; rw [List.take_of_length_le (by omega)]; simp
def bz64 : List Int := List.replicate 64 0
theorem zb64 (w : World) : (zeroValue 74).run Try.prog w = .ok (.agg (u8s bz64)) w := by
  have h : (Try.prog.info? 74).map (fun i => (i.zero, i.size)) = some (some (.agg (u8s bz64)), 64) := by kernel_rfl
  exact (zero_of_info h).1 w
theorem infoD : (Try.prog.info? 25).map (·.size) = some 32 := by kernel_rfl
theorem idx32 (T : TypeId) (hT : Try.prog.underlying T = some (.array 32 5)) (ds : List Int) (hl : ds.length = 32) (k : Nat) (h : k < 32) (W : World) : Sem.run Try.prog (Instr.index T (.agg (u8s ds)) (.int .i64 (k : Int))) W = .ok (.int .u8 (ds.getD k 0)) W := by
  obtain ⟨i0, hi, hz0, hz1, hz2⟩ := info_parts Try.infoU8
  have h2 := u8s_at ds k (by omega)
  simp [Instr.index, asIntOf, run_underlying hT, sizeOf, typeInfo, hi, hz1, part, h2, h]
theorem sidx (a : Int) (h : 0 ≤ a ∧ a < 16) (K : IntKind) (W : World) : Sem.run Try.prog (Instr.index 9 (.string { data := #[48, 49, 50, 51, 52, 53, 54, 55, 56, 57, 97, 98, 99, 100, 101, 102] }) (.int K a)) W = .ok (.int .u8 (hx a)) W := by
  rw [run_index_string W 9 _ K a Try.underlying9]
  have hs : (0 : Int) ≤ a ∧ a < ((({ data := #[48, 49, 50, 51, 52, 53, 54, 55, 56, 57, 97, 98, 99, 100, 101, 102] } : ByteArray).size : Nat) : Int) := h
  rw [dif_pos hs]
  have := digs_at a h
  have hlt : a.toNat < digs.size := by show a.toNat < 16; omega
  rw [getElem!_pos digs a.toNat hlt] at this
  rw [← this]; rfl
/-- Print's own blocks: the digest, the text. -/
def PrB (w wr : World) (N : Nat) (ds ts : List Int) : Prop := Bk 25 wr N (u8s ds) ∧ Bk 74 wr (N + 1) (u8s ts) ∧ w.grownBy wr none ∧ N = w.heap.size
theorem prb_new (w : World) (ds ts : List Int) : PrB w ((w.alloc (.cells (u8s ds) 25)).alloc (.cells (u8s ts) 74)) w.heap.size ds ts := by
  refine ⟨(Below.heap_alloc _ _ _ (by simp)).trans (heap_new w _), ?_, gb_trans (World.grownBy_alloc _ _ _) (World.grownBy_alloc _ _ _), rfl⟩
  have := heap_new (w.alloc (.cells (u8s ds) 25)) (.cells (u8s ts) 74)
  rw [World.size_alloc] at this
  exact this
theorem PrB.set {w wr N ds ts} (h : PrB w wr N ds ts) (i : Nat) (x : Int) : PrB w (wr.setCell ⟨N + 1, i, none⟩ (.int .u8 x)) N ds (ts.set i x) := by
  obtain ⟨h1, h2, h3, h4⟩ := h
  refine ⟨(Below.heap_setCell _ _ _ _ (by show N ≠ N + 1; omega)).trans h1, ?_, gb_newer (N := N + 1) h3 ⟨rfl, rfl, rfl, by simp, fun k _ hk => Below.heap_setCell _ _ _ _ (fun e => hk (by rw [e]))⟩ (by omega), h4⟩
  have := h2.set i (.int .u8 x)
  rw [u8s_set] at this
  exact this

end Go.Proofs.Ythbnbomdngecmaa
