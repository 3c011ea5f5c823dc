/-
  What the document's rowSize answers of a row. Condition: a row that may be.
-/
import Derived.Test.YtcdgfghcmeadgaaDoorIGc
import Derived.Test.YtcdgfghcmeadgaaDoorIGs
namespace Go.Proofs.YtcdgfghcmeadgaaDoor
open Go.RowKit
set_option linter.unusedVariables false

theorem held_d1 {x W : World} {Q : Nat} {n : Int} (h : W.cell? ⟨Q, 2, none⟩ = some (.int .i64 n) ∧ Hid (Q < x.heap.size ∧ x.grownBy W none)) : W.drew.cell? ⟨Q, 2, none⟩ = some (.int .i64 n) ∧ Hid (Q < x.heap.size ∧ x.grownBy W.drew none) :=
  ⟨h.1, h.2.out.1, gb_dr h.2.out.2 1⟩
set_option maxRecDepth 20000 in
set_option maxHeartbeats 2000000 in
theorem jrowSize_c (k v : ByteArray) (n : Int) (w : World) (hk : k.size ≤ 1024) (hv : v.size ≤ 65536) (h0 : 0 ≤ n) (h1 : n ≤ 1152921504606846976) :
    Calls Tryd.prog 62 #[.agg #[.string k, .string v, .int .i64 n]] w fun r w' => r = .returned (.int .i64 ((rowB k v n).length : Int)) ∧ w.grownBy w' none := by
  have H0 : Hid (Bk 48 (w.alloc (.cells #[.string k, .string v, .int .i64 n] 48)) w.heap.size #[.string k, .string v, .int .i64 n] ∧ w.grownBy (w.alloc (.cells #[.string k, .string v, .int .i64 n] 48)) none) := blk_new w _ _
  have hrow : (rowB k v n).length = (enc k.size).length + k.size + (enc v.size).length + v.size + (enc n.toNat).length := by
    unfold rowB
    simp only [List.length_append, sb_length]
    omega
  have hb1 := enc_leN k.size (by omega)
  have hb2 := enc_leN v.size (by omega)
  have hb3 := enc_leN n.toNat (by omega)
  obtain ⟨Q, hQ⟩ : ∃ Q, Q = w.heap.size := ⟨_, rfl⟩
  obtain ⟨W0, hW0⟩ : ∃ W0, W0 = w.alloc (.cells #[.string k, .string v, .int .i64 n] 48) := ⟨_, rfl⟩
  rw [← hW0, ← hQ] at H0
  have HQ : Hid (Q < W0.heap.size) := lt_of_block H0.out.1
  have HBY : Hid (∀ (V : Int) (L : Nat), 0 ≤ V → V < 18446744073709551616 → (enc V.toNat).length = L → ∀ W, (W.cell? ⟨Q, 2, none⟩ = some (.int .i64 n) ∧ Hid (Q < W0.heap.size ∧ W0.grownBy W none)) → Calls Tryd.prog 64 #[.int .u64 V] W fun r w' => ∃ g c, r = .returned (.slice (some ⟨g, 0, none⟩) L c) ∧ (w'.cell? ⟨Q, 2, none⟩ = some (.int .i64 n) ∧ Hid (Q < W0.heap.size ∧ W0.grownBy w' none))) := fun V L v0 v1 hL W hS => by
    refine (bytes_c V v0 v1 W).mono ?_
    rintro r w' ⟨g, m, c, rfl, q1, q2⟩
    have hm : m = L := by rw [← hL]; exact q1.len.symm
    subst hm
    have q3 : W.grownBy w' none := bgb q2
    exact ⟨g, c, rfl, ((q2.cell (Nat.lt_of_lt_of_le hS.2.out.1 hS.2.out.2.size)).trans hS.1), hS.2.out.1, gb_trans hS.2.out.2 q3⟩
  have c0 : W0.cell? ⟨Q, 0, none⟩ = some (.string k) := H0.out.1.cell 0
  have c1 : W0.cell? ⟨Q, 1, none⟩ = some (.string v) := H0.out.1.cell 1
  have c2 : W0.cell? ⟨Q, 2, none⟩ = some (.int .i64 n) := H0.out.1.cell 2
  rw [hrow]
  obtain ⟨K, hK⟩ : ∃ K, K = k.size := ⟨_, rfl⟩
  obtain ⟨V, hV⟩ : ∃ V, V = v.size := ⟨_, rfl⟩
  obtain ⟨L1, hL1⟩ : ∃ L, (enc k.size).length = L := ⟨_, rfl⟩
  obtain ⟨L2, hL2⟩ : ∃ L, (enc v.size).length = L := ⟨_, rfl⟩
  obtain ⟨L3, hL3⟩ : ∃ L, (enc n.toNat).length = L := ⟨_, rfl⟩
  rw [hL1, hL2, hL3, ← hK, ← hV]
  rw [hL1] at hb1
  rw [hL2] at hb2
  rw [hL3] at hb3
  have B1 := HBY.out (K : Int) L1 (by omega) (by omega) (by rw [Int.toNat_natCast, hK]; exact hL1)
  have B2 := HBY.out (V : Int) L2 (by omega) (by omega) (by rw [Int.toNat_natCast, hV]; exact hL2)
  have B3 := HBY.out n L3 (by omega) (by omega) hL3
  have HB1 : Hid _ := B1
  have HB2 : Hid _ := B2
  have HB3 : Hid _ := B3
  clear B1 B2 B3 HBY hL1 hL2 hL3 hrow
  have z1 : IntKind.i64.wrap ((L1 : Int) + (K : Int)) = (L1 : Int) + (K : Int) := IntWalk.i64_in _ ⟨by omega, by omega⟩
  have z2 : IntKind.i64.wrap ((L1 : Int) + (K : Int) + (L2 : Int)) = (L1 : Int) + (K : Int) + (L2 : Int) := IntWalk.i64_in _ ⟨by omega, by omega⟩
  have z3 : IntKind.i64.wrap ((L1 : Int) + (K : Int) + (L2 : Int) + (V : Int)) = (L1 : Int) + (K : Int) + (L2 : Int) + (V : Int) := IntWalk.i64_in _ ⟨by omega, by omega⟩
  have z4 : IntKind.i64.wrap ((L1 : Int) + (K : Int) + (L2 : Int) + (V : Int) + (L3 : Int)) = (L1 : Int) + (K : Int) + (L2 : Int) + (V : Int) + (L3 : Int) := IntWalk.i64_in _ ⟨by omega, by omega⟩
  have u1 : IntKind.u64.wrap (K : Int) = (K : Int) := IntWalk.u64_in _ ⟨by omega, by omega⟩
  have u2 : IntKind.u64.wrap (V : Int) = (V : Int) := IntWalk.u64_in _ ⟨by omega, by omega⟩
  have u3 : IntKind.u64.wrap n = n := IntWalk.u64_in _ ⟨by omega, by omega⟩
  subst hK hV
  go_enter Tryd.func62, Tryd.ntmps62
  go_wp2_with fail
  rw [← hW0, ← hQ]
  clear hW0 hQ
  go_quiet (fail)
  generalize hW1 : World.drewN W0 _ = W1
  have hS0 : W1.cell? ⟨Q, 2, none⟩ = some (.int .i64 n) ∧ Hid (Q < W0.heap.size ∧ W0.grownBy W1 none) := by
    rw [← hW1]
    exact ⟨c2, HQ.out, gb_dr (grf W0) _⟩
  clear hW1 c0 c1 c2
  go_wp2_with fail
  go_region_held3 (fun W => W.cell? ⟨Q, 2, none⟩ = some (.int .i64 n) ∧ Hid (Q < W0.heap.size ∧ W0.grownBy W none)) (first | assumption | exact held_d1 (by assumption)) (first
    | (go_at_call_of 64 (Value.int .u64 (k.size : Int)); refine (Calls.mono (HB1.out _ (by assumption)) ?_); rintro r x3 ⟨g1, p1, rfl, h3⟩)
    | (go_at_call_of 64 (Value.int .u64 (v.size : Int)); refine (Calls.mono (HB2.out _ (by assumption)) ?_); rintro r x3 ⟨g1, p1, rfl, h3⟩)
    | (go_at_call_of 64 (Value.int .u64 n); refine (Calls.mono (HB3.out _ (by assumption)) ?_); rintro r x3 ⟨g1, p1, rfl, h3⟩))
  have A3 : Hid (w.grownBy x3 none) := gb_trans H0.out.2 h3.2.out.2
  clear h3 hS0
  go_wp2_with fail
  go_ret
  refine ⟨?_, A3.out⟩
  show Ending.returned (Value.int .i64 _) = _
  congr 2
end Go.Proofs.YtcdgfghcmeadgaaDoor
