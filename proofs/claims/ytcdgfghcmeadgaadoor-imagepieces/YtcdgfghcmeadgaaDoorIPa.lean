/-
  image's New; a Write to an Opener that has given up; what a Write that answers an error says of the bytes. No condition.
-/
import Derived.Test.YtcdgfghcmeadgaaDoorIOV
import Derived.Test.YtcdgfghcmeadgaaDoorIEl
import Derived.Test.YtcdgfghcmeadgaaDoorIFw
import Derived.Test.YtcdgfghcmeadgaaDoorIGs
namespace Go.Proofs.YtcdgfghcmeadgaaDoor
open Go.RowKit
set_option linter.unusedVariables false

def o0 : Opn := ⟨false, 0, 0, 0, none, 0, 0, 0, 0, .empty, none, 0, 0⟩
theorem inew_c (w : World) : Calls Tryd.prog 23 #[] w fun r w' => ∃ g, r = .returned (.pointer (some ⟨g, 0, none⟩)) ∧ OpB w' g o0 ∧ w.heap.size ≤ g ∧ w.grownBy w' none := by
  go_enter Tryd.func23, Tryd.ntmps23
  go_wp2
  go_ret
  exact ⟨_, rfl, (blk_new w 115 o0.cells).1, Nat.le_refl _, (blk_new w 115 o0.cells).2⟩
theorem st_new (O : Nat → Prop) {w : World} {g : Nat} (h : OpB w g o0) : ST [] O w g o0 0 0 0 0 [] [] :=
  ⟨h, Pre.start, .inl ⟨rfl, by decide, rfl⟩, rfl, fun z => by omega, fun z => by omega, rfl, rfl, rfl, rfl, fun z => by omega, fun _ => rfl, by decide, rfl, fun i hi => by simp at hi⟩
theorem three_gb (w : World) (o p q : Obj) : w.grownBy (((w.alloc o).alloc p).alloc q) none := gb_trans (World.grownBy_alloc _ _ _) (gb_trans (World.grownBy_alloc _ _ _) (World.grownBy_alloc _ _ _))
theorem oshut_w {g : Nat} {o : Opn} {w : World} (a : Option Addr) (n c : Nat) (h : OpB w g o) (he : o.err ≠ 0) : Calls Tryd.prog 24 #[.pointer (some ⟨g, 0, none⟩), .slice a n c] w fun r w' => r = .returned (.tuple #[.slice none 0 0, .int .i64 o.err]) ∧ w.grownBy w' none := by
  have HC : Hid (∀ W, w.grownBy W none → Calls Tryd.prog 55 #[.pointer (some ⟨g, 0, none⟩)] W fun r w' => r = .returned (.int .i64 o.err) ∧ w' = W) := fun W hW => by
    have z := oshut_c g o W (opb_gb h hW)
    have e : o.shut = o.err := by unfold Opn.shut; rw [if_pos he]
    rw [e] at z
    exact z
  have he2 : (o.err == 0) = false := beq_eq_false_iff_ne.2 he
  generalize o.err = e at HC he he2 ⊢
  clear h
  go_enter_defers Tryd.func24, Tryd.ntmps24
  go_wp2_with (go_at_call 55; go_must (refine (Calls.mono (HC.out _ (three_gb _ _ _ _)) ?_)); rintro r w1 ⟨rfl, rfl⟩)
  refine ⟨_, results_twoI Tryd.results24 _ _ _ ⟨w.heap.size + 1, 0, none⟩ ⟨w.heap.size + 1 + 1, 0, none⟩ (.slice none 0 0) (.int .i64 e) rfl rfl ?_ (err_loadI ?_), rfl, three_gb _ _ _ _⟩
  · have hc : (((w.alloc (.cells #[.pointer (some ⟨g, 0, none⟩)] 51)).alloc (.cells #[.slice none 0 0] 22)).alloc (.cells #[.int .i64 e] 30)).cell? ⟨w.heap.size + 1, 0, none⟩ = some (.slice none 0 0) := by
      rw [World.cell?_alloc_past _ _ _ (by simp), World.cell?_alloc_at _ _ _ _ (by simp)]; rfl
    simp [loadVar, hc]
  · rw [World.cell?_alloc_at _ _ _ _ (by simp)]; rfl
/-- Bytes that Write refused are no image's beginning. -/
theorem bad_no {ys zs : List Int} {X D : List Rwi} {e : Int} (hb : Bytes (ys ++ zs)) (h : Bad ys zs X D e) (us : List Int) (s : Int) (Y : List Rwi) : ¬ DOk (ys ++ zs ++ us) s Y := fun k => by
  obtain ⟨K, part, p, seq, n, h1, h2, h3, h4⟩ := h
  have hz : ys ++ zs ++ us = (ys ++ zs.take K) ++ (zs.drop K ++ us) := by
    rw [List.append_assoc, List.append_assoc, ← List.append_assoc (zs.take K), List.take_append_drop]
  rw [hz] at k
  rcases h4 with w | ⟨_, w2, _⟩
  · refine w.no ?_ h3 _ s Y k
    have e : ys ++ zs.take K = (ys ++ zs).take (ys.length + K) := by rw [List.take_length_add_append]
    rw [e]
    exact bytes_takeO hb _
  · have := k.1
    rw [← hz, List.length_append, List.length_append] at this
    rcases h2 with z | z
    · omega
    · omega
end Go.Proofs.YtcdgfghcmeadgaaDoor
