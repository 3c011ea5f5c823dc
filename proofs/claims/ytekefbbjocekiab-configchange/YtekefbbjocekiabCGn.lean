/-
  Configurations that lie in blocks of their own, whatever is done elsewhere. No condition.
-/
import Derived.Test.YtekefbbjocekiabCGf
namespace Go.Proofs.Ytekefbbjocekiab
open Go.RowKit
set_option linter.unusedVariables false

/-- Configurations that are known, and that nothing of what there was ahead has changed. -/
def Kn (l : List (Nat × TypeId × Int × Value)) (w W : World) : Prop := (∀ x ∈ l, CfB x.2.1 W x.1 x.2.2.1 x.2.2.2) ∧ Below w.heap.size w W
theorem Kn.of {w W : World} {b : Nat} {T : TypeId} {e : Int} {v : Value} (h : CfB T W b e v) (hb : Below w.heap.size w W) : Kn [(b, T, e, v)] w W := ⟨fun x hx => by simp at hx; subst hx; exact h, hb⟩
theorem Kn.below {l} {w W W' : World} (h : Kn l w W) (hb : Below W.heap.size W W') : Kn l w W' := ⟨fun x hx => (h.1 x hx).below hb, h.2.trans (hb.mono h.2.size)⟩
theorem Kn.get {l} {w W : World} (h : Kn l w W) (i : Nat) {b : Nat} {T : TypeId} {e : Int} {v : Value} (hi : l[i]? = some (b, T, e, v)) : CfB T W b e v := h.1 _ (List.mem_of_getElem? hi)
theorem Kn.c0 {l} {w W : World} (h : Kn l w W) (i : Nat) {b : Nat} {T : TypeId} {e : Int} {v : Value} (hi : l[i]? = some (b, T, e, v)) : W.cell? ⟨b, 0, none⟩ = some (.int .i64 e) := (h.get i hi).c0
theorem Kn.c1 {l} {w W : World} (h : Kn l w W) (i : Nat) {b : Nat} {T : TypeId} {e : Int} {v : Value} (hi : l[i]? = some (b, T, e, v)) : W.cell? ⟨b, 1, none⟩ = some v := (h.get i hi).c1
theorem alloc_b (W : World) (o : Obj) : Below W.heap.size W (W.alloc o) := (Below.refl _ _).alloc (Nat.le_refl _) _
theorem Kn.add {l} {w W : World} (h : Kn l w W) (T : TypeId) (e : Int) (v : Value) : Kn ((W.heap.size, T, e, v) :: l) w (W.alloc (.cells #[.int .i64 e, v] T)) := by
  have h2 := h.below (alloc_b W (.cells #[.int .i64 e, v] T))
  refine ⟨fun x hx => ?_, h2.2⟩
  rcases List.mem_cons.1 hx with rfl | hx
  · exact CfB.new _ _ _ _
  · exact h2.1 x hx
theorem Kn.drew {l} {w W : World} (h : Kn l w W) : Kn l w W.drew := ⟨h.1, h.2.drew⟩
theorem Kn.drewN {l} {w W : World} (h : Kn l w W) (n : Nat) : Kn l w (W.drewN n) := ⟨h.1, below_drewN h.2 n⟩
/-- The last one is written over. -/
theorem Kn.put {l} {w W : World} {b : Nat} {T : TypeId} {e0 : Int} {v0 : Value} (h : Kn ((b, T, e0, v0) :: l) w W) (hb : w.heap.size ≤ b) (hl : ∀ x ∈ l, x.1 ≠ b) (e : Int) (v : Value) : Kn ((b, T, e, v) :: l) w ((W.setCell ⟨b, 0, none⟩ (.int .i64 e)).setCell ⟨b, 1, none⟩ v) := by
  refine ⟨fun x hx => ?_, (h.2.setCell (p := ⟨b, 0, none⟩) hb _).setCell (p := ⟨b, 1, none⟩) hb _⟩
  rcases List.mem_cons.1 hx with rfl | hx
  · exact cf_set (h.get 0 rfl) e v
  · exact cf_other (cf_other (h.1 x (List.mem_cons_of_mem _ hx)) b 0 (hl x hx) _) b 1 (hl x hx) _
theorem Kn.lt {l} {w W : World} (h : Kn l w W) (i : Nat) {b : Nat} {T : TypeId} {e : Int} {v : Value} (hi : l[i]? = some (b, T, e, v)) : b < W.heap.size := (h.get i hi).lt
/-- A list that one has can be read. -/
theorem OwI.segW {B : Nat} {w : World} {a : Option Addr} {n c : Nat} {xs : List Int} (h : OwI B w (.slice a n c) n xs) : Seg .i64 w a n xs ∧ (a = none → c = 0) ∧ n ≤ c := by
  obtain ⟨a', c', e, h1, h2, h3⟩ := h.seg
  cases e
  exact ⟨h1, h2, h3⟩
theorem grown_setO (w : World) (g i : Nat) (v : Value) : w.grownBy (w.setCell ⟨g, i, none⟩ v) (some g) :=
  ⟨rfl, rfl, rfl, by simp [World.setCell], fun k _ hk => heap_setCell_other w ⟨g, i, none⟩ k v (fun e => hk (by rw [e]))⟩
end Go.Proofs.Ytekefbbjocekiab
