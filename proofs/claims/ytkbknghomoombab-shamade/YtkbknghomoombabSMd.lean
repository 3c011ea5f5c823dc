/-
  What a Hasher's methods do where no call made it: nothing, and nothing is answered. No condition.
-/
import Derived.Test.YtkbknghomoombabSSu
namespace Go.Proofs.Ytkbknghomoombab
set_option linter.unusedVariables false
open Go.RowKit

/-- A Hasher that no call made: nil, or one whose first cell says no. -/
def NotMade (w : World) (v : Value) : Prop := v = .pointer none ∨ ∃ g, v = .pointer (some ⟨g, 0, none⟩) ∧ w.cell? ⟨g, 0, none⟩ = some (.bool false)
theorem ready_no (v : Value) (w : World) (h : NotMade w v) : Calls Try.prog 50 #[v] w fun r w' => r = .returned (.bool false) ∧ w' = w := by
  rcases h with rfl | ⟨g, rfl, kc⟩
  · go_enter Try.func50, Try.ntmps50
    go_wp2
    go_ret
    exact ⟨rfl, rfl⟩
  · go_enter Try.func50, Try.ntmps50
    go_wp2
    go_ret
    exact ⟨rfl, rfl⟩
set_option maxRecDepth 20000 in
set_option maxHeartbeats 400000 in
theorem write_no (v : Value) (b : Value) (w : World) (h : NotMade w v) : Calls Try.prog 16 #[v, b] w fun r w' => r = .returned (.tuple #[]) ∧ w' = w := by
  have HR : Hid (Calls Try.prog 50 #[v] w fun r w' => r = .returned (.bool false) ∧ w' = w) := ready_no v w h
  clear h
  go_enter Try.func16, Try.ntmps16
  go_wp2_with (go_at_call 50; refine (Calls.mono HR.out ?_); rintro r w1 ⟨rfl, rfl⟩)
  refine bodyPost_end (results_none rfl _ _ _) rfl ?_
  exact ⟨rfl, rfl⟩
set_option maxRecDepth 20000 in
set_option maxHeartbeats 400000 in
theorem reset_no (v : Value) (w : World) (h : NotMade w v) : Calls Try.prog 24 #[v] w fun r w' => r = .returned (.tuple #[]) ∧ w' = w := by
  have HR : Hid (Calls Try.prog 50 #[v] w fun r w' => r = .returned (.bool false) ∧ w' = w) := ready_no v w h
  clear h
  go_enter Try.func24, Try.ntmps24
  go_wp2_with (go_at_call 50; refine (Calls.mono HR.out ?_); rintro r w1 ⟨rfl, rfl⟩)
  refine bodyPost_end (results_none rfl _ _ _) rfl ?_
  exact ⟨rfl, rfl⟩
set_option maxRecDepth 20000 in
set_option maxHeartbeats 400000 in
theorem len_no (v : Value) (w : World) (h : NotMade w v) : Calls Try.prog 15 #[v] w fun r w' => r = .returned (.int .i64 0) ∧ w' = w := by
  have HR : Hid (Calls Try.prog 50 #[v] w fun r w' => r = .returned (.bool false) ∧ w' = w) := ready_no v w h
  clear h
  go_enter Try.func15, Try.ntmps15
  go_wp2_with (go_at_call 50; refine (Calls.mono HR.out ?_); rintro r w1 ⟨rfl, rfl⟩)
  go_ret
  exact ⟨rfl, rfl⟩
set_option maxRecDepth 20000 in
set_option maxHeartbeats 400000 in
theorem save_no (v : Value) (w : World) (h : NotMade w v) : Calls Try.prog 14 #[v] w fun r w' => r = .returned (.slice none 0 0) ∧ w' = w := by
  have HR : Hid (Calls Try.prog 50 #[v] w fun r w' => r = .returned (.bool false) ∧ w' = w) := ready_no v w h
  clear h
  go_enter Try.func14, Try.ntmps14
  go_wp2_with (go_at_call 50; refine (Calls.mono HR.out ?_); rintro r w1 ⟨rfl, rfl⟩)
  go_ret
  exact ⟨rfl, rfl⟩
theorem notMade_gb {w w' : World} {v : Value} (h : NotMade w v) (hg : w.grownBy w' none) : NotMade w' v := by
  rcases h with h | ⟨g, h, kc⟩
  · exact .inl h
  · refine .inr ⟨g, h, ?_⟩
    rw [World.cell?_of_block (w := w) (w' := w') (a := ⟨g, 0, none⟩) (hg.block g (World.block_lt_of_cell? w ⟨g, 0, none⟩ kc) (by simp))]
    exact kc
set_option maxRecDepth 20000 in
set_option maxHeartbeats 400000 in
theorem hsum_no (v : Value) (w : World) (h : NotMade w v) : Calls Try.prog 18 #[v] w fun r w' => r = .returned (.agg (u8s dz32)) ∧ w.grownBy w' none := by
  have hz := zD
  have HZ : Hid (Bk 41 (w.alloc (.cells (u8s dz32) 41)) w.heap.size (u8s dz32) ∧ w.grownBy (w.alloc (.cells (u8s dz32) 41)) none) := blk_new w _ _
  have HR : Hid (Calls Try.prog 50 #[v] (w.alloc (.cells (u8s dz32) 41)) fun r w' => r = .returned (.bool false) ∧ w' = w.alloc (.cells (u8s dz32) 41)) := ready_no v _ (notMade_gb h HZ.out.2)
  clear h
  go_enter Try.func18, Try.ntmps18
  go_wp2_with (first
    | (go_at_call 50; refine (Calls.mono HR.out ?_); rintro r w1 ⟨rfl, rfl⟩)
    | (refine wpList_build_run rfl 41 _ rfl (.agg (u8s dz32)) (by kernel_rfl) ?_)
    | (refine wpList_store_bk 41 rfl (.tmp 2) (.tmp 6) rfl infoD w.heap.size (u8s dz32) (u8s dz32) rfl rfl HZ.out.1 rfl rfl (u8s_one _) ?_; intro w4 h1 h2; have H4 : Hid (Bk 41 w4 w.heap.size (u8s dz32) ∧ w.grownBy w4 none) := ⟨h1, gb_newer HZ.out.2 h2 (Nat.le_refl _)⟩; clear h1 h2))
  refine bodyPost_ret (results_cell1 Try.results18 _ _ _ ⟨w.heap.size, 0, none⟩ (.agg (u8s dz32)) rfl (bk_load (T := 41) Try.underlying41 rfl infoD H4.out.1 rfl)) rfl ?_
  exact ⟨rfl, H4.out.2⟩
theorem wpList_build_runG {ops : Array Oper} {rest : List Oper} {op : Oper} {a : Act} {w : World} {Q : Exit → Act → World → Prop} (hgd : Region.wanted op (yielded ops a.tmps) = true) (T : TypeId) (parts : Array (Nat × Operand)) (ho : op.op = .build T parts)
    (v : Value) (hr : (Instr.build T (parts.map fun p => (p.1, a.eval p.2))).run Try.prog w = .ok v w)
    (K : wpList Try.prog ops Q rest (a.put op.dst v) w) : wpList Try.prog ops Q (op :: rest) a w :=
  BigFrame.wpList_want hgd fun K' hK => by
    unfold Oper.wp execOp
    simp only [ho, hr, Sem.run_bind, Sem.run_pure, Result.andThen_ok]
    exact hK _ _ K
def zhash : Array Value := (.bool false :: stc st00 (rz []) 0).toArray
theorem zH (w : World) : (zeroValue 54).run Try.prog w = .ok (.agg zhash) w := by
  have h : (Try.prog.info? 54).map (fun i => (i.zero, i.size)) = some (some (.agg zhash), 74) := by kernel_rfl
  exact (zero_of_info h).1 w
end Go.Proofs.Ytkbknghomoombab
