/-
  What the Writer's Digest answers. Condition: what is laid down takes at most 2^47 bytes.
-/
import Derived.Test.YtdedmmodlbnnfaaWTx
namespace Go.Proofs.Ytdedmmodlbnnfaa
open Go.RowKit
set_option linter.unusedVariables false

set_option maxRecDepth 20000 in
set_option maxHeartbeats 800000 in
theorem wdigest_c (g : Nat) (ys : List Int) (e : Int) (ds : List Int) (C : Array Value) (fs : List Nat) (w : World) (h : WS w g ys e fs) (hC : C = (ds.map (Value.int .u8)).toArray) (hl : ds.length = 32) (hd : Bytes ds) (hb : ys.length + 40 ≤ 140737488355328) :
    Calls Try.prog 27 #[.pointer (some ⟨g, 0, none⟩), .agg C] w fun r w' => r = .returned (.tuple #[]) ∧ WGoes w g fs w' (wadd e ys ds) e := by
  have HW : Hid (WS w g ys e fs) := h
  have HC : Hid (C = (ds.map (Value.int .u8)).toArray) := hC
  obtain ⟨N, hN⟩ : ∃ N, N = w.heap.size := ⟨_, rfl⟩
  have HN : Hid (g < N) := by rw [hN]; exact h.lt
  have HR : Hid (∀ w, WS w g ys e fs → Calls Try.prog 60 #[.pointer (some ⟨g, 0, none⟩)] w fun r w' => r = .returned (.bool (e == 0)) ∧ w' = w) := fun w h => wready_c g e w h.c0
  have HL : Hid (∀ w, e = 0 → WS w g ys e fs → Seg .u8 w (some ⟨N, 0, none⟩) 32 ds → Calls Try.prog 61 #[.pointer (some ⟨g, 0, none⟩), .slice (some ⟨N, 0, none⟩) 32 32] w fun r w' => r = .returned (.tuple #[]) ∧ WGoes w g fs w' (wadd e ys ds) e) := fun w he h hs => by
    rw [show wadd e ys ds = ys ++ ds from by rw [wadd, if_pos he]]
    exact lay_c g ys ds e fs _ 32 32 w h hs (fun b o s e => by cases e; have := HN.out; omega) (fun h => by cases h) hd (by omega)
  have HY : Hid (e ≠ 0 → wadd e ys ds = ys) := fun h => wadd_err h ys ds
  obtain ⟨Y, hY⟩ : ∃ Y, Y = wadd e ys ds := ⟨_, rfl⟩
  rw [← hY] at HL HY ⊢
  have HDL : Hid (ds.length = 32) := hl
  clear h hC hl hb hd hY
  by_cases he : e = 0
  · subst he
    go_enter Try.func27, Try.ntmps27
    go_wp2_with fail
    rw [← hN]
    generalize hW1 : World.alloc w _ = W1
    have H1 : Hid (WS W1 g ys 0 fs ∧ Row .u8 69 W1 N ds ∧ w.grownBy W1 none) := by
      rw [← hW1, hN]
      refine ⟨HW.out.new (World.grownBy_alloc _ _ _), ?_, World.grownBy_alloc _ _ _⟩
      have := heap_new w (.cells C 69)
      rw [HC.out] at this
      rw [HC.out]; exact this
    clear hW1 hN HC HW
    refine (HR.out W1 H1.out.1).mono ?_
    rintro r w1 ⟨rfl, rfl⟩
    go_wp2_with fail
    refine (HL.out w1 (by trivial) H1.out.1 (H1.out.2.1.segAll 32 HDL.out.symm)).mono ?_
    rintro _ w2 ⟨rfl, h2⟩
    have H2 : Hid (WGoes w g fs w2 Y 0) := h2.pre H1.out.2.2
    clear h2
    go_wp2
    go_end0
    exact ⟨rfl, H2.out⟩
  · have hbq : (e == 0) = false := by simp [he]
    rw [HY.out he]
    rw [hbq] at HR
    clear he HL HY
    go_enter Try.func27, Try.ntmps27
    go_wp2_with fail
    generalize hW1 : World.alloc w _ = W1
    have H1 : Hid (WS W1 g ys e fs ∧ w.grownBy W1 none) := by
      rw [← hW1]
      exact ⟨HW.out.new (World.grownBy_alloc _ _ _), World.grownBy_alloc _ _ _⟩
    clear hW1 hN HC HW
    refine (HR.out W1 H1.out.1).mono ?_
    rintro r w1 ⟨rfl, rfl⟩
    go_wp2
    go_end0
    exact ⟨rfl, H1.out.1.stay.pre H1.out.2⟩
end Go.Proofs.Ytdedmmodlbnnfaa
