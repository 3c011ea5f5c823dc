/-
  What New makes, and what a Hasher's Write, Sum and Len do. Condition: it was made; fewer than 2^61 bytes.
-/
import Derived.Test.YtlfppknpnfeplaaSSm
namespace Go.Proofs.Ytlfppknpnfeplaa
set_option linter.unusedVariables false
open Go.RowKit

def c0h : Array Value := (.bool true :: stc st0 (rz []) 0).toArray
set_option maxRecDepth 20000 in
set_option maxHeartbeats 400000 in
theorem hnew_c (w : World) : Calls Try.prog 7 #[] w fun r w' => ∃ g, r = .returned (.pointer (some ⟨g, 0, none⟩)) ∧ w.heap.size ≤ g ∧ Hs 70 [.bool true] w' g (st0, []) 0 ∧ w.grownBy w' none := by
  go_enter Try.func7, Try.ntmps7
  go_wp2_with (first
    | (go_at_call 28; go_must (refine (beginning_c _).mono ?_); rintro r w1 ⟨rfl, h1⟩; have H1 : Hid (w.grownBy w1 none) := h1; clear h1)
    | (refine wpList_build_run rfl 70 _ rfl (.agg c0h) (by kernel_rfl) ?_))
  go_ret
  exact ⟨w1.heap.size, rfl, H1.out.size, ⟨⟨heap_new w1 _, rfl⟩, rfl⟩, gb_trans H1.out (World.grownBy_alloc _ _ _)⟩
theorem ready_yes (g : Nat) (w : World) (h : w.cell? ⟨g, 0, none⟩ = some (.bool true)) : Calls Try.prog 30 #[.pointer (some ⟨g, 0, none⟩)] w fun r w' => r = .returned (.bool true) ∧ w' = w := by
  go_enter Try.func30, Try.ntmps30
  go_wp2
  go_ret
  exact ⟨rfl, rfl⟩
theorem Hs.made {w g p n} (h : Hs 70 [.bool true] w g p n) : w.cell? ⟨g, 0, none⟩ = some (.bool true) := by
  rw [cell_of_row w g 0 _ _ _ h.1.1]; rfl
theorem Sta.range {T pre w g s rs n} (h : Sta T pre w g s rs n) : w.rangeAt g pre.length (stc s rs n) := fun j v hv => by
  rw [cell_of_row w g _ _ _ _ h.1, List.getElem?_toArray, List.getElem?_append_right (by omega), Nat.add_sub_cancel_left]
  exact hv
theorem stc_len {T pre w g s rs n} (h : Sta T pre w g s rs n) : (stc s rs n).length = 73 := by
  have := h.2
  simp [stc, words_len, this]
theorem Hs.gb {T pre w w' g p n} (h : Hs T pre w g p n) (hg : w.grownBy w' none) : Hs T pre w' g p n := ⟨h.1.gb hg, h.2⟩
set_option maxRecDepth 20000 in
set_option maxHeartbeats 400000 in
theorem hsum_c (g : Nat) (p : St × List Int) (n : Nat) (w : World) (h : Hs 70 [.bool true] w g p n) (hb : Bytes p.2) (hn : n < 2305843009213693952) : Calls Try.prog 13 #[.pointer (some ⟨g, 0, none⟩)] w fun r w' => r = .returned (.agg (u8s (dgs p n))) ∧ w.grownBy w' none := by
  have hz := zD
  have HZ : Hid (Bk 37 (w.alloc (.cells (u8s dz32) 37)) w.heap.size (u8s dz32) ∧ w.grownBy (w.alloc (.cells (u8s dz32) 37)) none) := blk_new w _ _
  have hH := h.gb HZ.out.2
  have HR : Hid _ := ready_yes g (w.alloc (.cells (u8s dz32) 37)) hH.made
  have HDI : Hid (∀ W, Calls Try.prog 33 #[.agg (stc p.1 (rz p.2) n).toArray] W fun r w' => r = .returned (.agg (u8s (dgs p n))) ∧ W.grownBy w' none) := fun W => digest_c p.1 p.2 n h.2 hb hn W
  have HRG : Hid ((w.alloc (.cells (u8s dz32) 37)).rangeAt g 1 (stc p.1 (rz p.2) n) ∧ (stc p.1 (rz p.2) (n : Int)).length = 73) := ⟨hH.1.range, stc_len h.1⟩
  have HSL : Hid ((dgs p n).length = 32) := dgs_len _ _
  obtain ⟨E, hE⟩ : ∃ E, E = dgs p n := ⟨_, rfl⟩
  obtain ⟨cs, hcs⟩ : ∃ cs, cs = stc p.1 (rz p.2) (n : Int) := ⟨_, rfl⟩
  rw [← hE] at HDI HSL ⊢
  rw [← hcs] at HDI HRG
  clear hE hcs h hb hH
  go_enter Try.func13, Try.ntmps13
  go_wp2_with (first
    | (go_at_call 30; refine (Calls.mono HR.out ?_); rintro r wq ⟨rfl, rfl⟩)
    | (refine wpList_load_mid rfl 67 (.tmp 9) rfl g 1 rfl cs _ HRG.out.1 Try.underlying67 rfl (by rw [HRG.out.2]; exact infoSt) ?_)
    | (go_at_call 33; go_must (refine (HDI.out _).mono ?_); rintro r w3 ⟨rfl, h3⟩; have H3 : Hid (Bk 37 w3 w.heap.size (u8s dz32) ∧ w.grownBy w3 none) := ⟨HZ.out.1.grew h3 (by simp), gb_trans HZ.out.2 h3⟩; clear h3)
    | (refine wpList_store_bk 37 rfl (.tmp 2) (.tmp 11) rfl infoD w.heap.size (u8s dz32) (u8s E) rfl rfl H3.out.1 rfl (by rw [u8s_size]; exact HSL.out) (u8s_one _) ?_; intro w4 h1 h2; have H4 : Hid (Bk 37 w4 w.heap.size (u8s E) ∧ w.grownBy w4 none) := ⟨h1, gb_newer H3.out.2 h2 (Nat.le_refl _)⟩; clear h1 h2))
  refine bodyPost_ret (results_cell1 Try.results13 _ _ _ ⟨w.heap.size, 0, none⟩ (.agg (u8s E)) rfl (bk_load (T := 37) Try.underlying37 rfl infoD H4.out.1 (by rw [u8s_size]; exact HSL.out))) rfl ?_
  exact ⟨rfl, H4.out.2⟩
theorem str_abc : strOfNums (ptx (sha [97, 98, 99])) = { data := #[98, 97, 55, 56, 49, 54, 98, 102, 56, 102, 48, 49, 99, 102, 101, 97, 52, 49, 52, 49, 52, 48, 100, 101, 53, 100, 97, 101, 50, 50, 50, 51, 98, 48, 48, 51, 54, 49, 97, 51, 57, 54, 49, 55, 55, 97, 57, 99, 98, 52, 49, 48, 102, 102, 54, 49, 102, 50, 48, 48, 49, 53, 97, 100] } := by
  apply ByteArray.ext
  apply Array.toList_inj.1
  rw [strOfNums_data, sha_abc]
  decide +kernel
end Go.Proofs.Ytlfppknpnfeplaa
