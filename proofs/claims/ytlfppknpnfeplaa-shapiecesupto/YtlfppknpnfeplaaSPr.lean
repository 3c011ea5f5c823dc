/-
  What sha's Print answers: two digits a byte. Condition: the digest has 32 bytes.
-/
import Derived.Test.YtlfppknpnfeplaaSBl
import Derived.Test.YtlfppknpnfeplaaSStr
namespace Go.Proofs.Ytlfppknpnfeplaa
set_option linter.unusedVariables false
open Go.RowKit

/-- The digit of a value below 16. -/
def hx (v : Int) : Int := if v < 10 then 48 + v else 87 + v
/-- The text of bytes. -/
def ptx (ds : List Int) : List Int := ds.flatMap fun c => [hx (c / 16), hx (c % 16)]
theorem ptx_app (a b : List Int) : ptx (a ++ b) = ptx a ++ ptx b := by unfold ptx; rw [List.flatMap_append]
theorem ptx_len (ds : List Int) : (ptx ds).length = 2 * ds.length := by
  induction ds with
  | nil => rfl
  | cons c ds ih =>
    rw [show c :: ds = [c] ++ ds from rfl, ptx_app, List.length_append, ih, List.length_append]
    show 2 + _ = _
    simp only [List.length_cons, List.length_nil]; omega
theorem ptx_snoc (ds : List Int) (k : Nat) (h : k < ds.length) : ptx (ds.take (k + 1)) = ptx (ds.take k) ++ [hx (ds.getD k 0 / 16), hx (ds.getD k 0 % 16)] := by
  rw [List.take_succ_eq_append_getElem h, ptx_app]
  congr 1
  simp [ptx, h]
theorem hx_bd (v : Int) (h : 0 ≤ v ∧ v < 16) : 0 ≤ hx v ∧ hx v < 256 := by unfold hx; split <;> omega
def digs : ByteArray := { data := #[48, 49, 50, 51, 52, 53, 54, 55, 56, 57, 97, 98, 99, 100, 101, 102] }
theorem digs_at (v : Int) (h : 0 ≤ v ∧ v < 16) : ((digs[v.toNat]!).toNat : Int) = hx v := by
  obtain ⟨n, rfl⟩ := Int.eq_ofNat_of_zero_le h.1
  have : ∀ n : Fin 16, ((digs[n.val]!).toNat : Int) = hx (n.val : Int) := by decide +kernel
  exact this ⟨n, by omega⟩
/-- The text so far, and zeros. -/
def txz (ds : List Int) (k : Nat) : List Int := ptx (ds.take k) ++ List.replicate (64 - 2 * k) 0
theorem txz_len (ds : List Int) (k : Nat) (hl : ds.length = 32) (h : k ≤ 32) : (txz ds k).length = 64 := by simp [txz, ptx_len]; omega
theorem u8s_set (l : List Int) (i : Nat) (x : Int) : (u8s l).setIfInBounds i (.int .u8 x) = u8s (l.set i x) := by
  simp [u8s, List.map_set]
theorem txz_set (ds : List Int) (k : Nat) (hl : ds.length = 32) (h : k < 32) : ((txz ds k).set (2 * k) (hx (ds.getD k 0 / 16))).set (2 * k + 1) (hx (ds.getD k 0 % 16)) = txz ds (k + 1) := by
  unfold txz
  have e : (ptx (ds.take k)).length = 2 * k := by rw [ptx_len, List.length_take]; omega
  rw [ptx_snoc ds k (by omega), show 64 - 2 * k = (64 - 2 * (k + 1)) + 1 + 1 from by omega, List.replicate_succ, List.replicate_succ, List.set_append_right _ _ (by omega), e, Nat.sub_self, List.set_cons_zero, List.set_append_right _ _ (by omega), e, show 2 * k + 1 - 2 * k = 1 from by omega, List.set_cons_succ, List.set_cons_zero]
  simp
theorem txz_end (ds : List Int) (hl : ds.length = 32) : txz ds 32 = ptx ds := by unfold txz; rw [List.take_of_length_le (by omega)]; simp
def bz64 : List Int := List.replicate 64 0
theorem zb64 (w : World) : (zeroValue 65).run Try.prog w = .ok (.agg (u8s bz64)) w := by
  have h : (Try.prog.info? 65).map (fun i => (i.zero, i.size)) = some (some (.agg (u8s bz64)), 64) := by kernel_rfl
  exact (zero_of_info h).1 w
theorem infoD : (Try.prog.info? 37).map (·.size) = some 32 := by kernel_rfl
theorem idx32 (T : TypeId) (hT : Try.prog.underlying T = some (.array 32 5)) (ds : List Int) (hl : ds.length = 32) (k : Nat) (h : k < 32) (W : World) : Sem.run Try.prog (Instr.index T (.agg (u8s ds)) (.int .i64 (k : Int))) W = .ok (.int .u8 (ds.getD k 0)) W := by
  obtain ⟨i0, hi, hz0, hz1, hz2⟩ := info_parts Try.infoU8
  have h2 := u8s_at ds k (by omega)
  simp [Instr.index, asIntOf, run_underlying hT, sizeOf, typeInfo, hi, hz1, part, h2, h]
theorem sidx (a : Int) (h : 0 ≤ a ∧ a < 16) (K : IntKind) (W : World) : Sem.run Try.prog (Instr.index 9 (.string { data := #[48, 49, 50, 51, 52, 53, 54, 55, 56, 57, 97, 98, 99, 100, 101, 102] }) (.int K a)) W = .ok (.int .u8 (hx a)) W := by
  rw [run_index_string W 9 _ K a Try.underlying9]
  have hs : (0 : Int) ≤ a ∧ a < ((({ data := #[48, 49, 50, 51, 52, 53, 54, 55, 56, 57, 97, 98, 99, 100, 101, 102] } : ByteArray).size : Nat) : Int) := h
  rw [dif_pos hs]
  have := digs_at a h
  have hlt : a.toNat < digs.size := by show a.toNat < 16; omega
  rw [getElem!_pos digs a.toNat hlt] at this
  rw [← this]; rfl
/-- Print's own blocks: the digest, the text. -/
def PrB (w wr : World) (N : Nat) (ds ts : List Int) : Prop := Bk 37 wr N (u8s ds) ∧ Bk 65 wr (N + 1) (u8s ts) ∧ w.grownBy wr none ∧ N = w.heap.size
theorem prb_new (w : World) (ds ts : List Int) : PrB w ((w.alloc (.cells (u8s ds) 37)).alloc (.cells (u8s ts) 65)) w.heap.size ds ts := by
  refine ⟨(Below.heap_alloc _ _ _ (by simp)).trans (heap_new w _), ?_, gb_trans (World.grownBy_alloc _ _ _) (World.grownBy_alloc _ _ _), rfl⟩
  have := heap_new (w.alloc (.cells (u8s ds) 37)) (.cells (u8s ts) 65)
  rw [World.size_alloc] at this
  exact this
theorem PrB.set {w wr N ds ts} (h : PrB w wr N ds ts) (i : Nat) (x : Int) : PrB w (wr.setCell ⟨N + 1, i, none⟩ (.int .u8 x)) N ds (ts.set i x) := by
  obtain ⟨h1, h2, h3, h4⟩ := h
  refine ⟨(Below.heap_setCell _ _ _ _ (by show N ≠ N + 1; omega)).trans h1, ?_, gb_newer (N := N + 1) h3 ⟨rfl, rfl, rfl, by simp, fun k _ hk => Below.heap_setCell _ _ _ _ (fun e => hk (by rw [e]))⟩ (by omega), h4⟩
  have := h2.set i (.int .u8 x)
  rw [u8s_set] at this
  exact this

set_option maxRecDepth 20000 in
set_option maxHeartbeats 400000 in
theorem print_c (ds : List Int) (hl : ds.length = 32) (hb : Bytes ds) (w : World) : Calls Try.prog 23 #[.agg (u8s ds)] w fun r w' => r = .returned (.string (strOfNums (ptx ds))) ∧ w.grownBy w' none := by
  have HNEW : Hid (PrB w ((w.alloc (.cells (u8s ds) 37)).alloc (.cells (u8s bz64) 65)) w.heap.size ds bz64) := prb_new w ds bz64
  have hz := zb64
  have HL : Hid (ds.length = 32) := hl
  have HB : Hid (Bytes ds) := hb
  clear hl hb
  obtain ⟨N, hN⟩ : ∃ N, N = w.heap.size := ⟨_, rfl⟩
  go_enter Try.func23, Try.ntmps23
  go_wp2_with (first
    | (refine wpList_load_bk 37 rfl (.tmp 1) rfl Try.underlying37 rfl infoD w.heap.size (u8s ds) rfl HNEW.out.1 (by rw [u8s_size]; exact HL.out) ?_))
  generalize hW1 : World.alloc (World.alloc w _) _ = W1
  have H0 : Hid (PrB w W1 N ds (txz ds 0)) := by rw [← hW1, hN]; exact HNEW
  rw [← hN]
  clear hW1 HNEW
  have HN : Hid (N = w.heap.size) := hN
  clear hN
  go_loopw [7] (fun i wr => ∃ k : Nat, k ≤ 32 ∧ i = .int .i64 k ∧ Hid (PrB w wr N ds (txz ds k))) (fun i _ => 32 - (intOf i).toNat)
  case atStart => exact ⟨0, Nat.zero_le _, rfl, H0⟩
  case round =>
    obtain ⟨k, hk, rfl, hr⟩ := hrel
    clear H0
    by_cases hlt : k < 32
    · obtain ⟨c, hc⟩ : ∃ c, c = ds.getD k 0 := ⟨_, rfl⟩
      have hcb : 0 ≤ c ∧ c < 256 := by rw [hc]; have := HB.out k (by rw [HL.out]; exact hlt); simpa using this
      have hix : ∀ W, Sem.run Try.prog (Instr.index 37 (.agg (u8s ds)) (.int .i64 (k : Int))) W = .ok (.int .u8 c) W := by rw [hc]; exact idx32 37 Try.underlying37 ds HL.out k hlt
      have HC : Hid (c = ds.getD k 0) := hc
      clear hc
      obtain ⟨x, hx1⟩ : ∃ x, x = c / 16 := ⟨_, rfl⟩
      obtain ⟨y, hy1⟩ : ∃ y, y = c % 16 := ⟨_, rfl⟩
      have hxb : 0 ≤ x ∧ x < 16 := by omega
      have hyb : 0 ≤ y ∧ y < 16 := by omega
      have q1 : c.tdiv (16 : Int) = x := by rw [Int.tdiv_eq_ediv_of_nonneg hcb.1, hx1]
      have q2 : c.tmod (16 : Int) = y := by rw [Int.tmod_eq_emod_of_nonneg hcb.1, hy1]
      have q1' : c / (16 : Int) = x := hx1.symm
      have q2' : c % (16 : Int) = y := hy1.symm
      have q3 : x % (256 : Int) = x := by omega
      have q4 : y % (256 : Int) = y := by omega
      have s1 := sidx x hxb .u8
      have s2 := sidx y hyb .u8
      have HXY : Hid (hx x = hx (ds.getD k 0 / 16) ∧ hx y = hx (ds.getD k 0 % 16)) := by rw [← HC.out, q1', q2']; exact ⟨rfl, rfl⟩
      have HSE : Hid (((txz ds k).set (2 * k) (hx x)).set (2 * k + 1) (hx y) = txz ds (k + 1)) := by show _ = _; rw [HXY.out.1, HXY.out.2]; exact txz_set ds k HL.out hlt
      have HLE : Hid ((txz ds k).length = 64) := txz_len ds k HL.out hk
      have k1 : wr.cell? ⟨N + 1, 2 * k, none⟩ = some (.int .u8 ((txz ds k).getD (2 * k) 0)) := by rw [hr.out.2.1.cell _, u8s_at _ _ (by rw [HLE.out]; omega)]
      have f1 : wr.frozen? ⟨N + 1, 2 * k, none⟩ = false := frozen_of_row wr (N + 1) _ _ 65 hr.out.2.1
      have hr1 : Hid (PrB w (wr.setCell ⟨N + 1, 2 * k, none⟩ (.int .u8 (hx x))) N ds ((txz ds k).set (2 * k) (hx x))) := hr.out.set _ _
      have k2 : (wr.setCell ⟨N + 1, 2 * k, none⟩ (.int .u8 (hx x))).cell? ⟨N + 1, 2 * k + 1, none⟩ = some (.int .u8 (((txz ds k).set (2 * k) (hx x)).getD (2 * k + 1) 0)) := by rw [hr1.out.2.1.cell _, u8s_at _ _ (by rw [List.length_set, HLE.out]; omega)]
      have f2 : (wr.setCell ⟨N + 1, 2 * k, none⟩ (.int .u8 (hx x))).frozen? ⟨N + 1, 2 * k + 1, none⟩ = false := frozen_of_row _ (N + 1) _ _ 65 hr1.out.2.1
      have t1 : (2 * (k : Int)).toNat = 2 * k := by omega
      have t2 : (2 * (k : Int) + 1).toNat = 2 * k + 1 := by omega
      have i1 : 2 * (k : Int) < 64 := by omega
      have i2 : 2 * (k : Int) + 1 < 64 := by omega
      clear hx1 hy1 hcb
      go_wp2
      go_roundw
      case rel => exact ⟨k + 1, by omega, by go_num, by rw [← HSE.out]; exact hr1.out.set _ _⟩
      case measure => simp [intOf]; omega
    · obtain rfl : k = 32 := by omega
      have HLE : Hid ((txz ds 32).length = 64) := txz_len ds 32 HL.out hk
      have HE : Hid (txz ds 32 = ptx ds) := txz_end ds HL.out
      rw [HE.out] at hr HLE
      have hsg : Seg .u8 wr (some ⟨N + 1, 0, none⟩) 64 (ptx ds) := ⟨HLE.out, .inr ⟨N + 1, 0, rfl, lt_of_block hr.out.2.1, fun i hi => by rw [Nat.zero_add, hr.out.2.1.cell i, u8s_at _ _ (by rw [HLE.out]; exact hi)]; simp⟩⟩
      have hcv := seg_string (P := Try.prog) 29 9 5 64 hsg Try.underlying29 Try.underlying5 Try.underlying9
      clear hsg
      go_wp2
      go_ret
      exact ⟨rfl, hr.out.2.2.1⟩
end Go.Proofs.Ytlfppknpnfeplaa
