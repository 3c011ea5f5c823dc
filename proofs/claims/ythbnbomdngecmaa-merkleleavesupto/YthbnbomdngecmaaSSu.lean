/-
  What sha's beginning answers, and its Sum of no parts: the digest of no bytes, and that digest's text. No condition.
-/
import Derived.Test.YthbnbomdngecmaaSDg
namespace Go.Proofs.Ythbnbomdngecmaa
set_option linter.unusedVariables false
open Go.RowKit

def st00 : St := ⟨0, 0, 0, 0, 0, 0, 0, 0⟩
def czst : Array Value := (stc st00 (rz []) 0).toArray
def c0st : Array Value := (stc st0 (rz []) 0).toArray
theorem infoSt : (Try.prog.info? 76).map (·.size) = some 73 := by kernel_rfl
theorem zSt (w : World) : (zeroValue 76).run Try.prog w = .ok (.agg czst) w := by
  have h : (Try.prog.info? 76).map (fun i => (i.zero, i.size)) = some (some (.agg czst), 73) := by kernel_rfl
  exact (zero_of_info h).1 w
theorem c0_one : c0st.all (·.oneCell') = true := by decide +kernel
set_option maxRecDepth 20000 in
set_option maxHeartbeats 400000 in
theorem beginning_c (w : World) : Calls Try.prog 35 #[] w fun r w' => r = .returned (.agg c0st) ∧ w.grownBy w' none := by
  have hz := zSt
  have HZ : Hid (Bk 76 (w.alloc (.cells czst 76)) w.heap.size czst ∧ w.grownBy (w.alloc (.cells czst 76)) none) := blk_new w _ _
  go_enter Try.func35, Try.ntmps35
  go_wp2_with (first
    | (go_at_call 50; go_must (refine (first_c _).mono ?_); rintro r w1 ⟨rfl, h1⟩; have H1 : Hid (Bk 76 w1 w.heap.size czst ∧ w.grownBy w1 none) := ⟨HZ.out.1.grew h1 (by simp), gb_trans HZ.out.2 h1⟩; clear h1)
    | (refine wpList_build_run rfl 76 _ rfl (.agg c0st) (by kernel_rfl) ?_)
    | (refine wpList_store_bk 76 rfl (.tmp 0) (.tmp 2) rfl infoSt w.heap.size czst c0st rfl rfl H1.out.1 rfl rfl c0_one ?_; intro w2 h1 h2; have H2 : Hid (Bk 76 w2 w.heap.size c0st ∧ w.grownBy w2 none) := ⟨h1, gb_newer H1.out.2 h2 (Nat.le_refl _)⟩; clear h1 h2))
  refine bodyPost_ret (results_cell1 Try.results35 _ _ _ ⟨w.heap.size, 0, none⟩ (.agg c0st) rfl (bk_load (T := 76) Try.underlying76 rfl infoSt H2.out.1 rfl)) rfl ?_
  exact ⟨rfl, H2.out.2⟩
theorem dgs_len (p : St × List Int) (n : Nat) : (dgs p n).length = 32 := bytes_len _
theorem sha_len (xs : List Int) : (sha xs).length = 32 := dgs_len _ _
theorem sha_bytes (xs : List Int) : Bytes (sha xs) := by
  refine bytes_of_mem fun z hz => ?_
  unfold sha dgs St.bytes at hz
  rw [List.mem_flatMap] at hz
  obtain ⟨c, _, hz⟩ := hz
  exact b4_bytes c z hz
theorem str_none : strOfNums (ptx (sha [])) = { data := #[101, 51, 98, 48, 99, 52, 52, 50, 57, 56, 102, 99, 49, 99, 49, 52, 57, 97, 102, 98, 102, 52, 99, 56, 57, 57, 54, 102, 98, 57, 50, 52, 50, 55, 97, 101, 52, 49, 101, 52, 54, 52, 57, 98, 57, 51, 52, 99, 97, 52, 57, 53, 57, 57, 49, 98, 55, 56, 53, 50, 98, 56, 53, 53] } := by
  apply ByteArray.ext
  apply Array.toList_inj.1
  rw [strOfNums_data, sha_none]
  decide +kernel
end Go.Proofs.Ythbnbomdngecmaa
