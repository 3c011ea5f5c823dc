/-
  What the methods of a pack Reader that no call made answer: nothing, and ErrMade. No condition.
-/
import Derived.Test.YtdedmmodlbnnfaaPDig
import Derived.Test.YtdedmmodlbnnfaaBk
import Derived.Test.YtdedmmodlbnnfaaStr
import Derived.Stop.BytesEq
namespace Go.Proofs.Ytdedmmodlbnnfaa
open Go.RowKit
set_option linter.unusedVariables false

/-- A Reader that no call made: nil, or the zero value. -/
def Un (w : World) (p : Value) : Prop := p = .pointer none ∨ ∃ g, p = .pointer (some ⟨g, 0, none⟩) ∧ w.heap[g]? = some (.cells #[.int .i64 0, .bool false, .slice none 0 0, .int .i64 0] 57 (0, 0))
theorem Un.new {w w' : World} {p : Value} (h : Un w p) (hg : w.grownBy w' none) : Un w' p := by
  rcases h with h | ⟨g, h, hb⟩
  · exact .inl h
  · exact .inr ⟨g, h, (hg.block g (lt_of_block hb) (by simp)).trans hb⟩
theorem Un.drewN {w : World} {p : Value} (h : Un w p) (n : Nat) : Un (w.drewN n) p := h.new (gb_drewN (World.grownBy.refl _ _) n)

theorem uerr_c (p : Value) (w : World) (h : Un w p) : Calls Try.prog 52 #[p] w fun r w' => r = .returned (.int .i64 2) ∧ w' = w := by
  rcases h with rfl | ⟨g, rfl, hb⟩
  · go_enter Try.func52, Try.ntmps52
    go_wp2
    go_ret
    exact ⟨rfl, rfl⟩
  · have c1 : w.cell? ⟨g, 1, none⟩ = some (.bool false) := by rw [cell_of_row w g 1 _ _ _ hb]; rfl
    clear hb
    go_enter Try.func52, Try.ntmps52
    go_wp2
    go_ret
    exact ⟨rfl, rfl⟩
theorem uready_c (p : Value) (w : World) (h : Un w p) : Calls Try.prog 55 #[p] w fun r w' => r = .returned (.bool false) ∧ w' = w := by
  go_enter Try.func55, Try.ntmps55
  go_wp2_with fail
  refine (uerr_c p w h).mono ?_
  rintro r w1 ⟨rfl, rfl⟩
  go_wp2
  go_ret
  exact ⟨rfl, rfl⟩
theorem uuint_c (p : Value) (w : World) (h : Un w p) : Calls Try.prog 13 #[p] w fun r w' => r = .returned (.int .u64 0) ∧ w' = w := by
  go_enter Try.func13, Try.ntmps13
  go_wp2_with fail
  refine (uready_c p w h).mono ?_
  rintro r w1 ⟨rfl, rfl⟩
  go_wp2
  go_ret
  exact ⟨rfl, rfl⟩
theorem uint_u (p : Value) (m : Int) (w : World) (h : Un w p) : Calls Try.prog 36 #[p, .int .i64 m] w fun r w' => r = .returned (.int .i64 0) ∧ w' = w := by
  go_enter Try.func36, Try.ntmps36
  go_wp2_with fail
  refine (uready_c p w h).mono ?_
  rintro r w1 ⟨rfl, rfl⟩
  go_wp2
  go_ret
  exact ⟨rfl, rfl⟩
theorem utext_c (p : Value) (m : Int) (w : World) (h : Un w p) : Calls Try.prog 38 #[p, .int .i64 m] w fun r w' => r = .returned (.string ⟨#[]⟩) ∧ w' = w := by
  go_enter Try.func38, Try.ntmps38
  go_wp2_with fail
  refine (uready_c p w h).mono ?_
  rintro r w1 ⟨rfl, rfl⟩
  go_wp2
  go_ret
  exact ⟨rfl, rfl⟩
theorem ucount_c (p : Value) (m l : Int) (w : World) (h : Un w p) : Calls Try.prog 46 #[p, .int .i64 m, .int .i64 l] w fun r w' => r = .returned (.int .i64 0) ∧ w' = w := by
  go_enter Try.func46, Try.ntmps46
  go_wp2_with fail
  refine (uready_c p w h).mono ?_
  rintro r w1 ⟨rfl, rfl⟩
  go_wp2
  go_ret
  exact ⟨rfl, rfl⟩
theorem ufail_c (p : Value) (x : Int) (w : World) (h : Un w p) : Calls Try.prog 48 #[p, .int .i64 x] w fun r w' => r = .returned (.tuple #[]) ∧ w' = w := by
  go_enter Try.func48, Try.ntmps48
  go_wp2_with fail
  refine (uready_c p w h).mono ?_
  rintro r w1 ⟨rfl, rfl⟩
  go_wp2
  go_end0
  exact ⟨rfl, rfl⟩
theorem uend_c (p : Value) (w : World) (h : Un w p) : Calls Try.prog 53 #[p] w fun r w' => r = .returned (.int .i64 2) ∧ w' = w := by
  go_enter Try.func53, Try.ntmps53
  go_wp2_with fail
  refine (uerr_c p w h).mono ?_
  rintro r w1 ⟨rfl, rfl⟩
  go_wp2
  go_ret
  exact ⟨rfl, rfl⟩
theorem uat_c (p : Value) (w : World) (h : Un w p) : Calls Try.prog 50 #[p] w fun r w' => r = .returned (.int .i64 0) ∧ w' = w := by
  rcases h with rfl | ⟨g, rfl, hb⟩
  · go_enter Try.func50, Try.ntmps50
    go_wp2
    go_ret
    exact ⟨rfl, rfl⟩
  · have c3 : w.cell? ⟨g, 3, none⟩ = some (.int .i64 0) := by rw [cell_of_row w g 3 _ _ _ hb]; rfl
    clear hb
    go_enter Try.func50, Try.ntmps50
    go_wp2
    go_ret
    exact ⟨rfl, rfl⟩
theorem uleft_c (p : Value) (w : World) (h : Un w p) : Calls Try.prog 51 #[p] w fun r w' => r = .returned (.int .i64 0) ∧ ∃ n, w' = w.drewN n := by
  rcases h with rfl | ⟨g, rfl, hb⟩
  · go_enter Try.func51, Try.ntmps51
    go_wp2
    go_ret
    exact ⟨rfl, 0, rfl⟩
  · have c3 : w.cell? ⟨g, 3, none⟩ = some (.int .i64 0) := by rw [cell_of_row w g 3 _ _ _ hb]; rfl
    have c2 : w.cell? ⟨g, 2, none⟩ = some (.slice none 0 0) := by rw [cell_of_row w g 2 _ _ _ hb]; rfl
    clear hb
    go_enter Try.func51, Try.ntmps51
    go_wp2
    go_quiet (fail)
    go_wp2
    go_ret
    exact ⟨rfl, _, rfl⟩
set_option maxRecDepth 20000 in
theorem uflag_c (p : Value) (w : World) (h : Un w p) : Calls Try.prog 40 #[p] w fun r w' => r = .returned (.bool false) ∧ ∃ n, w' = w.drewN n := by
  have HQ : Hid (∀ n, Calls Try.prog 55 #[p] (w.drewN n) fun r w' => r = .returned (.bool false) ∧ w' = w.drewN n) := fun n => uready_c p _ (h.drewN n)
  clear h
  go_enter Try.func40, Try.ntmps40
  go_wp2
  go_quiet ((go_at_call 55; go_must (refine Calls.quiet_of_same (HQ.out _))))
  go_wp2
  go_ret
  exact ⟨rfl, _, rfl⟩
set_option maxRecDepth 20000 in
theorem udigest_c (p : Value) (w : World) (h : Un w p) :
    Calls Try.prog 42 #[p] w fun r w' => r = .returned (.agg (u8s (List.replicate 32 0))) ∧ w.grownBy w' none := by
  have HR : Hid (Un w p) := h
  have HT := two_new w 69 (List.replicate 32 0) (List.replicate 32 0)
  obtain ⟨N, hN⟩ : ∃ N, N = w.heap.size := ⟨_, rfl⟩
  obtain ⟨Z, hZ⟩ : ∃ Z : List Int, Z = List.replicate 32 0 := ⟨_, rfl⟩
  rw [← hZ]
  have HZ : Hid (Z = List.replicate 32 0) := hZ
  have HZL : Hid (Z.length = 32) := by rw [hZ, List.length_replicate]; exact rfl
  have HGL : Hid (N = w.heap.size) := hN
  clear h hZ
  go_enter Try.func42, Try.ntmps42
  go_wp2_with fail
  generalize hW1 : World.alloc (World.alloc w _) _ = W1
  rw [← hN]
  have H1 : Hid (Dg 69 W1 N Z ∧ Dg 69 W1 (N + 1) Z ∧ w.grownBy W1 none) := by rw [← hW1, hN, HZ.out]; exact HT
  clear hW1 HT hN
  refine (uready_c p W1 (HR.out.new H1.out.2.2)).mono ?_
  rintro r w1 ⟨rfl, rfl⟩
  go_wp2_with (first
    | (refine wpList_load_dg 69 rfl (.tmp 3) rfl Try.underlying69 infoD (N + 1) Z rfl H1.out.2.1 HZL.out ?_)
    | (refine wpList_store_dg 69 rfl (.tmp 2) (.tmp 10) rfl infoD N Z Z rfl rfl H1.out.1 HZL.out HZL.out ?_; intro w2 h1 h2; have H2 : Hid (Dg 69 w2 N Z ∧ w1.grownBy w2 (some N)) := ⟨h1, h2⟩; clear h1 h2))
  refine bodyPost_ret (results_cell1 Try.results42 _ _ _ ⟨N, 0, none⟩ (.agg (u8s Z)) rfl (dg_load Try.underlying69 infoD H2.out.1 HZL.out).1) rfl ?_
  exact ⟨rfl, gb_newer H1.out.2.2 H2.out.2 (Nat.le_of_eq HGL.out.symm)⟩
theorem infoR3 : (Try.prog.info? 37).map (·.size) = some 3 := by kernel_rfl
def noRow : Array Value := #[.string ⟨#[]⟩, .string ⟨#[]⟩, .int .i64 0]
set_option maxRecDepth 20000 in
theorem urow_c (p : Value) (w : World) (h : Un w p) : Calls Try.prog 44 #[p] w fun r w' => r = .returned (.agg noRow) ∧ w.grownBy w' none := by
  have HR : Hid (Un w p) := h
  have HT := blk_new w 37 noRow
  obtain ⟨N, hN⟩ : ∃ N, N = w.heap.size := ⟨_, rfl⟩
  have HGL : Hid (N = w.heap.size) := hN
  clear h
  go_enter Try.func44, Try.ntmps44
  go_wp2_with fail
  generalize hW1 : World.alloc w _ = W1
  rw [← hN]
  have H1 : Hid (Bk 37 W1 N noRow ∧ w.grownBy W1 none) := by rw [← hW1, hN]; exact HT
  clear hW1 HT hN
  refine (uready_c p W1 (HR.out.new H1.out.2)).mono ?_
  rintro r w1 ⟨rfl, rfl⟩
  go_wp2_with (first
    | (refine wpList_store_bk 37 rfl (.tmp 2) (.tmp 10) rfl infoR3 N noRow noRow rfl rfl H1.out.1 rfl rfl (by simp [noRow, Value.oneCell']) ?_; intro w2 h1 h2; have H2 : Hid (Bk 37 w2 N noRow ∧ w1.grownBy w2 (some N)) := ⟨h1, h2⟩; clear h1 h2))
  refine bodyPost_ret (results_cell1 Try.results44 _ _ _ ⟨N, 0, none⟩ (.agg noRow) rfl (bk_load Try.underlying37 rfl infoR3 H2.out.1 rfl)) rfl ?_
  exact ⟨rfl, gb_newer H1.out.2 H2.out.2 (Nat.le_of_eq HGL.out.symm)⟩

theorem cell_of (b : Int) (h0 : 0 ≤ b) (h1 : b < 256) : Value.int .u8 b = Extern.Stop.cell (UInt8.ofNat b.toNat) := by
  have e : ((UInt8.ofNat b.toNat).toNat : Int) = b := by simp [UInt8.toNat_ofNat']; omega
  show _ = Value.int .u8 (((UInt8.ofNat b.toNat).toNat : Nat) : Int)
  rw [e]
theorem eqZ (w : World) : (Op.equalIn 10000 69 (.agg (u8s (List.replicate 32 0))) (.agg #[.int .u8 0, .int .u8 0, .int .u8 0, .int .u8 0, .int .u8 0, .int .u8 0, .int .u8 0, .int .u8 0, .int .u8 0, .int .u8 0, .int .u8 0, .int .u8 0, .int .u8 0, .int .u8 0, .int .u8 0, .int .u8 0, .int .u8 0, .int .u8 0, .int .u8 0, .int .u8 0, .int .u8 0, .int .u8 0, .int .u8 0, .int .u8 0, .int .u8 0, .int .u8 0, .int .u8 0, .int .u8 0, .int .u8 0, .int .u8 0, .int .u8 0, .int .u8 0])).run Try.prog w = .ok true w := by
  have := run_equalIn_bytes (P := Try.prog) w 9998 69 5 32 Try.underlying69 Try.underlying5 (fun _ => by kernel_rfl) (List.replicate 32 0) (List.replicate 32 0) (by simp) (by simp)
  rw [beq_self_eq_true] at this
  exact this
theorem eqNo' (d : Nat) (w : World) : (Op.equalIn (d + 2) 37 (.agg noRow) (.agg noRow)).run Try.prog w = .ok true w := by
  have hs : ∀ s, (Op.equalIn (d + 1) 9 (.string s) (.string s)).run Try.prog w = .ok true w := by intro s; simp [Op.equalIn, run_underlying Try.underlying9]; cases s; rename_i dt; show (dt == dt) = true; exact beq_self_eq_true dt
  have hi : ∀ n, (Op.equalIn (d + 1) 3 (.int .i64 n) (.int .i64 n)).run Try.prog w = .ok true w := by intro s; simp [Op.equalIn, run_underlying Try.underlying3]
  rw [Op.equalIn]
  simp [run_underlying Try.underlying37, part, isAgg, run_underlying Try.underlying9, run_underlying Try.underlying3, hs, hi, noRow]
theorem eqNo (w : World) : (Op.equalIn 10000 37 (.agg noRow) (.agg #[.string ⟨#[]⟩, .string ⟨#[]⟩, .int .i64 0])).run Try.prog w = .ok true w := eqNo' 9998 w
end Go.Proofs.Ytdedmmodlbnnfaa
