/-
  What sha's filling answers: the bytes that stand behind so many bytes, in memory of their own. Condition: fewer than 2^61 bytes.
-/
import Derived.Test.YtlfppknpnfeplaaSLa
namespace Go.Proofs.Ytlfppknpnfeplaa
set_option linter.unusedVariables false
open Go.RowKit

theorem seg_new2 (w : World) (B : Nat) (hB : B = w.heap.size) (x y : Wd) : Seg .u32 (w.alloc (.cells #[.int .u32 (W x), .int .u32 (W y)] 41)) (some ⟨B, 0, none⟩) 2 ([x, y].map W) := by
  subst hB
  refine ⟨rfl, .inr ⟨w.heap.size, 0, rfl, by simp, fun i hi => ?_⟩⟩
  rw [Nat.zero_add, World.cell?_alloc_new]
  rcases i with _ | _ | i
  · rfl
  · rfl
  · omega
theorem made_zeros (k : Nat) : (madeCells (Value.int IntKind.u8 0).cells (k * 1)).toList = (List.replicate k (0 : Int)).map (Value.int .u8) := by
  rw [List.map_replicate]; simpa [Value.cells] using toList_madeCells_one (.int .u8 0) k
/-- What is known behind the store: the bytes so far. -/
def FiB (w wr : World) (z : Nat) : Prop := Own w.heap.size wr (.slice (some ⟨w.heap.size, 0, none⟩) (1 + z) (1 + z)) (1 + z) (128 :: List.replicate z 0) ∧ Below w.heap.size w wr
theorem fib_new {w w1 : World} {z : Nat} (hown : w1.ownsRow w.heap.size 5 1 (.slice (some ⟨w.heap.size, 0, none⟩) (1 + z) (1 + z)) (1 + z) (madeCells (Value.int IntKind.u8 0).cells ((1 + z) * 1)).toList) (hg : w.grownBy w1 none) :
    w1.cell? ⟨w.heap.size, 0, none⟩ = some (.int .u8 0) ∧ w1.frozen? ⟨w.heap.size, 0, none⟩ = false ∧ Hid (FiB w (w1.setCell ⟨w.heap.size, 0, none⟩ (.int .u8 128)) z) := by
  have ho : Own w.heap.size w1 (.slice (some ⟨w.heap.size, 0, none⟩) (1 + z) (1 + z)) (1 + z) (List.replicate (1 + z) 0) := by
    unfold Own; rw [← made_zeros]; exact hown
  have hc := ho.cell 0 (by omega)
  refine ⟨by rw [hc.1, Nat.add_comm]; simp [List.replicate_succ], hc.2, ?_, ?_⟩
  · have := ho.set 0 (by omega) 128
    rw [show (List.replicate (1 + z) (0 : Int)).set 0 128 = 128 :: List.replicate z 0 from by rw [Nat.add_comm, List.replicate_succ, List.set_cons_zero]] at this
    exact this
  · exact (gb_below hg).setCell (p := ⟨w.heap.size, 0, none⟩) (Nat.le_refl _) _
theorem fib_step {w wr w3 : World} {z : Nat} {o : Obj} {v : Value} {k : Nat} {ys : List Int} (h : FiB w wr z) (ho : Own (wr.alloc o).heap.size w3 v k ys) (hb : Below (wr.alloc o).heap.size (wr.alloc o) w3) :
    (∃ a c, v = .slice a k c ∧ Seg .u8 w3 a k ys ∧ (a = none → c = 0) ∧ k ≤ c) ∧ Own w.heap.size w3 (.slice (some ⟨w.heap.size, 0, none⟩) (1 + z) (1 + z)) (1 + z) (128 :: List.replicate z 0) ∧ Below w.heap.size w w3 ∧ True := by
  have h1 : Below w.heap.size w (wr.alloc o) := h.2.alloc h.2.size _
  exact ⟨ho.seg, (h.1.below ((Below.refl _ _).alloc (Nat.le_refl _) _)).below hb, h1.trans (hb.mono h1.size), trivial⟩
set_option maxRecDepth 20000 in
set_option maxHeartbeats 400000 in
theorem filling_c (n : Nat) (hn : n < 2305843009213693952) (w : World) :
    Calls Try.prog 49 #[.int .i64 (n : Int)] w fun r w' => ∃ v, r = .returned v ∧ Own w.heap.size w' v (fill n).length (fill n) ∧ Below w.heap.size w w' := by
  obtain ⟨i0, hi, hz0, hz1, hz2⟩ := info_parts Try.infoU8
  obtain ⟨m, hm⟩ : ∃ m, m = n % 64 := ⟨_, rfl⟩
  obtain ⟨z, hz⟩ : ∃ z, z = (128 - n % 64 - 9) % 64 := ⟨_, rfl⟩
  have hz64 : z < 64 := by omega
  have q1 : (n : Int).tmod (64 : Int) = (m : Int) := by rw [Int.tmod_eq_emod_of_nonneg (by omega)]; omega
  have q2 : ((128 : Int) - (m : Int) - 1 - 8).tmod (64 : Int) = (z : Int) := by rw [Int.tmod_eq_emod_of_nonneg (by omega)]; omega
  have hm64 : (m : Int) < 64 := by omega
  obtain ⟨X, hX⟩ : ∃ X, X = BitVec.ofNat 32 (8 * n / 4294967296) := ⟨_, rfl⟩
  obtain ⟨Y, hY⟩ : ∃ Y, Y = BitVec.ofNat 32 (8 * n) := ⟨_, rfl⟩
  have e1 : 8 * (n : Int) / (4294967296 : Int) % (4294967296 : Int) = W X := by unfold W; rw [hX, BitVec.toNat_ofNat]; omega
  have e2 : 8 * (n : Int) % (4294967296 : Int) = W Y := by unfold W; rw [hY, BitVec.toNat_ofNat]; omega
  have e1' : 8 * (n : Int) / (4294967296 : Int) = W X := by unfold W; rw [hX, BitVec.toNat_ofNat]; omega
  have HF : Hid (fill n = (128 :: List.replicate z 0) ++ (b4 X ++ b4 Y)) := by
    show _ = _
    unfold fill
    rw [← hz, ← hX, ← hY]; simp
  have HFL : Hid ((fill n).length = 1 + z + 8) := by show _ = _; rw [HF.out]; simp [b4]; omega
  clear hX hY hz hm
  go_enter Try.func49, Try.ntmps49
  have i1 : (0 : Int) < 1 + (z : Int) := by omega
  go_wp2_with (first
    | (at_make; go_must (refine wpList_make_full _ rfl _ _ 29 rfl w.heap.size 5 i0 (.int .u8 0) 1 Try.underlying29 hi hz0 hz1 _ _ _ _ (1 + z) rfl rfl (by omega) (by omega) (by rw [hz2]; omega) (by unfold maxLen; omega) (Nat.le_refl _) ?_); intro w1 hown hgrow; obtain ⟨k0, f0, H1⟩ := fib_new hown hgrow; clear hown hgrow)
    | (go_at_call 50; go_must (refine (laid_c (some ⟨w1.heap.size, 0, none⟩) [X, Y] 2 2 _ rfl (seg_new2 _ _ (by simp) X Y) (by omega)).mono ?_); rintro r w3 ⟨v3, rfl, ho3, hb3⟩; have H3 : Hid _ := fib_step H1.out ho3 hb3; clear ho3 hb3; obtain ⟨a3, c3, rfl, hs3, hn3, _⟩ := H3.out.1; have HS3 : Hid (Seg .u8 w3 a3 (4 * 2) ([X, Y].flatMap b4)) := hs3; have HN3 : Hid (a3 = none → c3 = 0) := hn3; clear hs3 hn3)
    | (at_builtin; go_must (refine wpList_append_grow _ rfl _ _ rfl w.heap.size (1 + z) _ (128 :: List.replicate z 0) rfl H3.out.2.1 a3 (4 * 2) c3 ([X, Y].flatMap b4) rfl HN3.out HS3.out (by omega) H3.out.2.2.1.size ?_); intro v5 w5 ho5 hb5; have H5 : Hid (Own w.heap.size w5 v5 (1 + z + 4 * 2) ((128 :: List.replicate z 0) ++ [X, Y].flatMap b4) ∧ Below w.heap.size w w5) := ⟨ho5, H3.out.2.2.1.trans hb5⟩; clear ho5 hb5))
  go_ret
  refine ⟨_, rfl, ?_, H5.out.2⟩
  rw [HFL.out, HF.out]
  exact H5.out.1
end Go.Proofs.Ytlfppknpnfeplaa
