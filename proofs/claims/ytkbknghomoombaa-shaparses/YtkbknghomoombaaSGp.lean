/-
  What the document's Print answers: the text that ptx gives. Condition: the digest has 32 bytes.
-/
import Derived.Test.YtkbknghomoombaaSPr
import Derived.BigQuiet
namespace Go.Proofs.Ytkbknghomoombaa
set_option linter.unusedVariables false
open Go.RowKit

theorem info32 : (Try.prog.info? 23).map (·.size) = some 32 := by kernel_rfl
theorem digs_ext (x : Int) (h : 0 ≤ x ∧ x < 16) : ByteArray.extract { data := #[48, 49, 50, 51, 52, 53, 54, 55, 56, 57, 97, 98, 99, 100, 101, 102] } x.toNat (x + 1).toNat = strOfNums [hx x] := by
  obtain ⟨n, rfl⟩ := Int.eq_ofNat_of_zero_le h.1
  have : ∀ n : Fin 16, (ByteArray.extract { data := #[48, 49, 50, 51, 52, 53, 54, 55, 56, 57, 97, 98, 99, 100, 101, 102] } n.val (n.val + 1)).data.toList = [UInt8.ofNat (hx (n.val : Int)).toNat] := by decide +kernel
  have h1 := this ⟨n, by omega⟩
  apply ByteArray.ext
  apply Array.toList_inj.1
  rw [strOfNums_data]
  exact h1
theorem str_app (a b : List Int) : strOfNums a ++ strOfNums b = strOfNums (a ++ b) := by
  apply ByteArray.ext
  apply Array.toList_inj.1
  rw [strOfNums_data, ByteArray.data_append, Array.toList_append, strOfNums_data, strOfNums_data, List.map_append]

theorem str_sz (ts : List Int) : (strOfNums ts).size = ts.length := by
  have := congrArg List.length (strOfNums_data ts)
  simpa using this
set_option maxRecDepth 20000 in
set_option maxHeartbeats 400000 in
theorem gprint_c (ds : List Int) (hl : ds.length = 32) (hb : Bytes ds) (w : World) : Calls Try.prog 17 #[.agg (u8s ds)] w fun r w' => r = .returned (.string (strOfNums (ptx ds))) ∧ w.grownBy w' none := by
  have HNEW : Hid (Bk 23 (w.alloc (.cells (u8s ds) 23)) w.heap.size (u8s ds) ∧ w.grownBy (w.alloc (.cells (u8s ds) 23)) none) := blk_new w _ _
  have HL : Hid (ds.length = 32) := hl
  have HB : Hid (Bytes ds) := hb
  clear hl hb
  obtain ⟨N, hN⟩ : ∃ N, N = w.heap.size := ⟨_, rfl⟩
  go_enter Try.func17, Try.ntmps17
  go_wp2
  generalize hW1 : World.alloc w _ = W1
  have H0 : Hid (Bk 23 W1 N (u8s ds) ∧ w.grownBy W1 none) := by rw [← hW1, hN]; exact HNEW
  rw [← hN]
  clear hW1 HNEW hN
  go_loopw [3, 4] (fun s i wr => ∃ k : Nat, k ≤ 32 ∧ i = .int .i64 k ∧ s = .string (strOfNums (ptx (ds.take k))) ∧ Hid (Bk 23 wr N (u8s ds) ∧ w.grownBy wr none)) (fun _ i _ => 32 - (intOf i).toNat)
  case atStart => exact ⟨0, Nat.zero_le _, rfl, rfl, H0⟩
  case round =>
    obtain ⟨k, hk, rfl, rfl, hr⟩ := hrel
    clear H0
    by_cases hlt : k < 32
    · obtain ⟨c, hc⟩ : ∃ c, c = ds.getD k 0 := ⟨_, rfl⟩
      have hcb : 0 ≤ c ∧ c < 256 := by rw [hc]; have := HB.out k (by rw [HL.out]; exact hlt); simpa using this
      have kc : wr.cell? ⟨N, k, none⟩ = some (.int .u8 c) := by rw [hc, hr.out.1.cell _, u8s_at _ _ (by rw [HL.out]; exact hlt)]
      have HSN : Hid (ptx (ds.take (k + 1)) = ptx (ds.take k) ++ [hx (c / 16), hx (c % 16)]) := by show _ = _; rw [hc]; exact ptx_snoc ds k (by rw [HL.out]; exact hlt)
      clear hc
      obtain ⟨x, hx1⟩ : ∃ x, x = c / 16 := ⟨_, rfl⟩
      obtain ⟨y, hy1⟩ : ∃ y, y = c % 16 := ⟨_, rfl⟩
      have hxb : 0 ≤ x ∧ x < 16 := by omega
      have hyb : 0 ≤ y ∧ y < 16 := by omega
      rw [← hx1, ← hy1] at HSN
      have q1 : c.tdiv (16 : Int) = x := by rw [Int.tdiv_eq_ediv_of_nonneg hcb.1, hx1]
      have q2 : c.tmod (16 : Int) = y := by rw [Int.tmod_eq_emod_of_nonneg hcb.1, hy1]
      have q1' : c / (16 : Int) = x := hx1.symm
      have q2' : c % (16 : Int) = y := hy1.symm
      have q3 : x % (256 : Int) = x := by omega
      have q4 : y % (256 : Int) = y := by omega
      have e1 := digs_ext x hxb
      have e2 := digs_ext y hyb
      have a1 : ∀ W, (Op.stringOp .add (strOfNums [hx x]) (strOfNums [hx y])).run Try.prog W = .ok (.string (strOfNums [hx x, hx y])) W := fun W => by
        rw [run_string_add_sum W _ _ (by rw [str_sz, str_sz]; simp), str_app]; rfl
      have a2 : ∀ W, (Op.stringOp .add (strOfNums (ptx (ds.take k))) (strOfNums [hx x, hx y])).run Try.prog W = .ok (.string (strOfNums (ptx (ds.take k) ++ [hx x, hx y]))) W := fun W => by
        rw [run_string_add_sum W _ _ (by rw [str_sz, str_sz, ptx_len, List.length_take, HL.out]; simp only [List.length_cons, List.length_nil]; omega), str_app]
      have z1 : (strOfNums [hx x]).size = 1 := str_sz _
      have z2 : (strOfNums [hx y]).size = 1 := str_sz _
      have z3 : (strOfNums [hx x, hx y]).size = 2 := str_sz _
      have z4 : (strOfNums (ptx (ds.take k))).size = 2 * k := by rw [str_sz, ptx_len, List.length_take, HL.out]; omega
      have z5 : ¬ 9223372036854775807 < 2 * k + 2 := by omega
      have a3 : strOfNums [hx x] ++ strOfNums [hx y] = strOfNums [hx x, hx y] := str_app _ _
      have a4 : strOfNums (ptx (ds.take k)) ++ strOfNums [hx x, hx y] = strOfNums (ptx (ds.take k) ++ [hx x, hx y]) := str_app _ _
      have b1 : 0 ≤ x := hxb.1
      have b2 : x ≤ x + 1 := by omega
      have b3 : x + 1 ≤ 16 := by omega
      have b4 : 0 ≤ y := hyb.1
      have b5 : y ≤ y + 1 := by omega
      have b6 : y + 1 ≤ 16 := by omega
      have w1 : IntKind.u8.wrap x = x := by rw [IntKind.wrap_u8]; omega
      have w2 : IntKind.u8.wrap (x + 1) = x + 1 := by rw [IntKind.wrap_u8]; omega
      have w3 : IntKind.u8.wrap y = y := by rw [IntKind.wrap_u8]; omega
      have w4 : IntKind.u8.wrap (y + 1) = y + 1 := by rw [IntKind.wrap_u8]; omega
      clear hx1 hy1
      go_wp2
      go_quiet (fail)
      have hr2 : Hid (Bk 23 (wr.drewN nq) N (u8s ds) ∧ w.grownBy (wr.drewN nq) none) := ⟨hr.out.1, gb_drewN hr.out.2 nq⟩
      generalize wr.drewN nq = w9 at hr2 ⊢
      clear a1 a2 a3 a4 z1 z2 z3 z4 z5 e1 e2 kc hr
      go_wp2
      go_roundw
      case rel => exact ⟨k + 1, by omega, by go_num, by rw [HSN.out], hr2⟩
      case measure => simp [intOf]; omega
    · obtain rfl : k = 32 := by omega
      have HE : Hid (ds.take 32 = ds) := List.take_of_length_le (by rw [HL.out]; omega)
      rw [HE.out]
      go_wp2
      go_ret
      exact ⟨rfl, hr.out.2⟩
end Go.Proofs.Ytkbknghomoombaa
