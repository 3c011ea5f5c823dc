/-
  What sha's beginning answers, and its Sum of no parts: the digest of no bytes, and that digest's text. No condition.
-/
import Derived.Test.YtlfppknpnfeplaaSDg
namespace Go.Proofs.Ytlfppknpnfeplaa
set_option linter.unusedVariables false
open Go.RowKit

def st00 : St := ⟨0, 0, 0, 0, 0, 0, 0, 0⟩
def czst : Array Value := (stc st00 (rz []) 0).toArray
def c0st : Array Value := (stc st0 (rz []) 0).toArray
theorem infoSt : (Try.prog.info? 67).map (·.size) = some 73 := by kernel_rfl
theorem zSt (w : World) : (zeroValue 67).run Try.prog w = .ok (.agg czst) w := by
  have h : (Try.prog.info? 67).map (fun i => (i.zero, i.size)) = some (some (.agg czst), 73) := by kernel_rfl
  exact (zero_of_info h).1 w
theorem c0_one : c0st.all (·.oneCell') = true := by decide +kernel
set_option maxRecDepth 20000 in
set_option maxHeartbeats 400000 in
theorem beginning_c (w : World) : Calls Try.prog 28 #[] w fun r w' => r = .returned (.agg c0st) ∧ w.grownBy w' none := by
  have hz := zSt
  have HZ : Hid (Bk 67 (w.alloc (.cells czst 67)) w.heap.size czst ∧ w.grownBy (w.alloc (.cells czst 67)) none) := blk_new w _ _
  go_enter Try.func28, Try.ntmps28
  go_wp2_with (first
    | (go_at_call 44; go_must (refine (first_c _).mono ?_); rintro r w1 ⟨rfl, h1⟩; have H1 : Hid (Bk 67 w1 w.heap.size czst ∧ w.grownBy w1 none) := ⟨HZ.out.1.grew h1 (by simp), gb_trans HZ.out.2 h1⟩; clear h1)
    | (refine wpList_build_run rfl 67 _ rfl (.agg c0st) (by kernel_rfl) ?_)
    | (refine wpList_store_bk 67 rfl (.tmp 0) (.tmp 2) rfl infoSt w.heap.size czst c0st rfl rfl H1.out.1 rfl rfl c0_one ?_; intro w2 h1 h2; have H2 : Hid (Bk 67 w2 w.heap.size c0st ∧ w.grownBy w2 none) := ⟨h1, gb_newer H1.out.2 h2 (Nat.le_refl _)⟩; clear h1 h2))
  refine bodyPost_ret (results_cell1 Try.results28 _ _ _ ⟨w.heap.size, 0, none⟩ (.agg c0st) rfl (bk_load (T := 67) Try.underlying67 rfl infoSt H2.out.1 rfl)) rfl ?_
  exact ⟨rfl, H2.out.2⟩
theorem dgs_len (p : St × List Int) (n : Nat) : (dgs p n).length = 32 := bytes_len _
theorem sha_len (xs : List Int) : (sha xs).length = 32 := dgs_len _ _
theorem sha_bytes (xs : List Int) : Bytes (sha xs) := by
  refine bytes_of_mem fun z hz => ?_
  unfold sha dgs St.bytes at hz
  rw [List.mem_flatMap] at hz
  obtain ⟨c, _, hz⟩ := hz
  exact b4_bytes c z hz
set_option maxRecDepth 20000 in
set_option maxHeartbeats 400000 in
theorem sum0_c (w : World) : Calls Try.prog 24 #[.slice none 0 0] w fun r w' => r = .returned (.agg (u8s (sha []))) ∧ w.grownBy w' none := by
  have hz := zSt
  have hzd := zD
  have HZ : Hid (Bk 37 (w.alloc (.cells (u8s dz32) 37)) w.heap.size (u8s dz32) ∧ w.grownBy (w.alloc (.cells (u8s dz32) 37)) none) := blk_new w _ _
  have HDI : Hid (∀ X, Calls Try.prog 33 #[.agg c0st] X fun r w' => r = .returned (.agg (u8s (sha []))) ∧ X.grownBy w' none) := fun X => digest_c st0 [] 0 rfl (fun i hi => by simp at hi) (by omega) X
  have HSL : Hid ((sha []).length = 32) := sha_len []
  obtain ⟨D, hD⟩ : ∃ D, D = sha [] := ⟨_, rfl⟩
  rw [← hD] at HDI HSL ⊢
  clear hD
  go_enter Try.func24, Try.ntmps24
  go_wp2_with (first
    | (go_at_call 28; go_must (refine (beginning_c _).mono ?_); rintro r w1 ⟨rfl, h1⟩; have H1 : Hid (Bk 37 w1 w.heap.size (u8s dz32) ∧ w.grownBy w1 none) := ⟨HZ.out.1.grew h1 (by simp), gb_trans HZ.out.2 h1⟩; clear h1; have HN1 : Hid (Bk 67 (w1.alloc (.cells czst 67)) w1.heap.size czst ∧ w1.grownBy (w1.alloc (.cells czst 67)) none) := blk_new w1 _ _)
    | (refine wpList_store_bk 67 rfl (.tmp 3) (.tmp 6) rfl infoSt w1.heap.size czst c0st rfl rfl HN1.out.1 rfl rfl c0_one ?_; intro w2 h1 h2; have H2 : Hid (Bk 67 w2 w1.heap.size c0st ∧ Bk 37 w2 w.heap.size (u8s dz32) ∧ w.grownBy w2 none) := ⟨h1, (H1.out.1.grew HN1.out.2 (by simp)).grew h2 (fun e => by have e1 := Option.some.inj e; have e2 := lt_of_block H1.out.1; omega), gb_newer (gb_trans H1.out.2 HN1.out.2) h2 H1.out.2.size⟩; clear h1 h2))
  refine wp_loop_rounds 1 ?_
  rw [rounds_succ]
  go_wp2_with (first
    | (refine wpList_load_bk 67 rfl (.tmp 3) rfl Try.underlying67 rfl infoSt w1.heap.size c0st rfl H2.out.1 rfl ?_)
    | (go_at_call 33; go_must (refine (HDI.out _).mono ?_); rintro r w3 ⟨rfl, h3⟩; have H3 : Hid (Bk 37 w3 w.heap.size (u8s dz32) ∧ w.grownBy w3 none) := ⟨H2.out.2.1.grew h3 (by simp), gb_trans H2.out.2.2 h3⟩; clear h3)
    | (refine wpList_store_bk 37 rfl (.tmp 2) (.tmp 17) rfl infoD w.heap.size (u8s dz32) (u8s D) rfl rfl H3.out.1 rfl (by rw [u8s_size]; exact HSL.out) (u8s_one _) ?_; intro w4 h1 h2; have H4 : Hid (Bk 37 w4 w.heap.size (u8s D) ∧ w.grownBy w4 none) := ⟨h1, gb_newer H3.out.2 h2 (Nat.le_refl _)⟩; clear h1 h2))
  refine bodyPost_ret (results_cell1 Try.results24 _ _ _ ⟨w.heap.size, 0, none⟩ (.agg (u8s D)) rfl (bk_load (T := 37) Try.underlying37 rfl infoD H4.out.1 (by rw [u8s_size]; exact HSL.out))) rfl ?_
  exact ⟨rfl, H4.out.2⟩
theorem str_none : strOfNums (ptx (sha [])) = { data := #[101, 51, 98, 48, 99, 52, 52, 50, 57, 56, 102, 99, 49, 99, 49, 52, 57, 97, 102, 98, 102, 52, 99, 56, 57, 57, 54, 102, 98, 57, 50, 52, 50, 55, 97, 101, 52, 49, 101, 52, 54, 52, 57, 98, 57, 51, 52, 99, 97, 52, 57, 53, 57, 57, 49, 98, 55, 56, 53, 50, 98, 56, 53, 53] } := by
  apply ByteArray.ext
  apply Array.toList_inj.1
  rw [strOfNums_data, sha_none]
  decide +kernel
end Go.Proofs.Ytlfppknpnfeplaa
