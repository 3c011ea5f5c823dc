/-
  What disk's files.do does with a create, a rename and a remove. No condition of its own.
-/
import Derived.Test.YteoohgjoffpmkaaKFn
import Derived.Test.YteoohgjoffpmkaaFCt
namespace Go.Proofs.Yteoohgjoffpmkaa
open Go.RowKit
set_option linter.unusedVariables false

/-- What files.do leaves. -/
def FdoA (O : Nat → Prop) (w : World) (b : Nat) (F' : ByteArray → Option (List Int)) (r : Ending) (w' : World) : Prop :=
  r = .returned (.tuple #[]) ∧ (∃ V', Fl (fun k => O k ∨ (w.heap.size ≤ k ∧ k < w'.heap.size)) w' b V' F') ∧ Gr O w w'
theorem grO {O : Nat → Prop} {b : Nat} {w w' : World} (hO : O b) (h : Gr (fun k => k = b) w w') : Gr O w w' := h.wide (fun k _ e => by rw [e]; exact hO)
set_option maxRecDepth 20000 in
theorem fdo1_c {O : Nat → Prop} {V F} (b : Nat) (s : ByteArray) (k : Int) (w : World) (h : Fl O w b V F) :
    Calls Try.prog 77 #[.map (some b), .iface 118 (.agg #[.string s]), .int .i64 k] w (FdoA O w b (fset F s (some []))) := by
  obtain ⟨W1, hW1⟩ : ∃ W1, W1 = w.alloc (.cells #[.string s] 118) := ⟨_, rfl⟩
  have g1 : Gr O w W1 := by rw [hW1]; exact (Gr.refl _ _).alloc _
  have h1 : Fl O W1 b V F := by rw [hW1]; exact h.gr (G := fun _ => False) ((Gr.refl _ _).alloc _) (fun _ _ z => z)
  obtain ⟨w', hu, hm, hg, hz⟩ := mps_upd Try.underlying76 Try.underlying9 h1.mp s (.slice none 0 0)
  have HG : Hid (FdoA O w b (fset F s (some [])) (.returned (.tuple #[])) w') := by
    refine ⟨rfl, ⟨_, h1.put (fun k hk => .inl hk) s (.slice none 0 0) [] hm (own_nil _ _) (by intro x hx; simp at hx) (fun t u ys ht hv ho => own_gr ho hg (fun k hk => (h1.ov t u k hv hk).2)) (fun k hk => by cases hk)⟩, g1.trans (grO h.ob hg)⟩
  rw [hW1] at hu
  have hta : ∀ W, (Instr.typeAssert (.iface 118 (.agg #[.string s])) 123 118 true).run Try.prog W = .ok (.tuple #[.agg #[.string s], .bool true]) W := fun W => by kernel_rfl
  clear hg hW1 h h1 hm g1 hz
  go_enter Try.func77, Try.ntmps77
  go_wp2
  go_end0
  exact HG.out
set_option maxRecDepth 20000 in
theorem fdo5_c {O : Nat → Prop} {V F} (b : Nat) (s : ByteArray) (k : Int) (w : World) (h : Fl O w b V F) :
    Calls Try.prog 77 #[.map (some b), .iface 128 (.agg #[.string s]), .int .i64 k] w (FdoA O w b (fset F s none)) := by
  obtain ⟨W1, hW1⟩ : ∃ W1, W1 = w.alloc (.cells #[.string s] 128) := ⟨_, rfl⟩
  have g1 : Gr O w W1 := by rw [hW1]; exact (Gr.refl _ _).alloc _
  have h1 : Fl O W1 b V F := by rw [hW1]; exact h.gr (G := fun _ => False) ((Gr.refl _ _).alloc _) (fun _ _ z => z)
  obtain ⟨w', hu, hm, hg, hz⟩ := mps_del Try.underlying76 Try.underlying9 h1.mp s 0
  have hu' := fun ty => (mps_del Try.underlying76 Try.underlying9 h1.mp s ty)
  have HG : Hid (FdoA O w b (fset F s none) (.returned (.tuple #[])) w') :=
    ⟨rfl, ⟨_, (h1.del s hm hg).weak (fun k hk => .inl hk)⟩, g1.trans (grO h.ob hg)⟩
  rw [hW1] at hu
  have ht1 : ∀ W, (Instr.typeAssert (.iface 128 (.agg #[.string s])) 123 118 true).run Try.prog W = .ok (.tuple #[.agg #[.string ByteArray.empty], .bool false]) W := fun W => by kernel_rfl
  have ht2 : ∀ W, (Instr.typeAssert (.iface 128 (.agg #[.string s])) 123 120 true).run Try.prog W = .ok (.tuple #[.agg #[.string ByteArray.empty, .slice none 0 0], .bool false]) W := fun W => by kernel_rfl
  have ht3 : ∀ W, (Instr.typeAssert (.iface 128 (.agg #[.string s])) 123 125 true).run Try.prog W = .ok (.tuple #[.agg #[.string ByteArray.empty, .int .i64 0], .bool false]) W := fun W => by kernel_rfl
  have ht4 : ∀ W, (Instr.typeAssert (.iface 128 (.agg #[.string s])) 123 127 true).run Try.prog W = .ok (.tuple #[.agg #[.string ByteArray.empty, .string ByteArray.empty], .bool false]) W := fun W => by kernel_rfl
  have ht5 : ∀ W, (Instr.typeAssert (.iface 128 (.agg #[.string s])) 123 128 true).run Try.prog W = .ok (.tuple #[.agg #[.string s], .bool true]) W := fun W => by kernel_rfl
  clear hg hW1 h h1 hm g1 hz hu'
  go_enter Try.func77, Try.ntmps77
  go_wp2
  go_end0
  exact HG.out
set_option maxRecDepth 20000 in
theorem fdo4_c {O : Nat → Prop} {V F} (b : Nat) (s t : ByteArray) (k : Int) (xs : List Int) (w : World) (h : Fl O w b V F) (hs : F s = some xs) :
    Calls Try.prog 77 #[.map (some b), .iface 127 (.agg #[.string s, .string t]), .int .i64 k] w (FdoA O w b (fset (fset F s none) t (some xs))) := by
  obtain ⟨W1, hW1⟩ : ∃ W1, W1 = w.alloc (.cells #[.string s, .string t] 127) := ⟨_, rfl⟩
  have g1 : Gr O w W1 := by rw [hW1]; exact (Gr.refl _ _).alloc _
  have h1 : Fl O W1 b V F := by rw [hW1]; exact h.gr (G := fun _ => False) ((Gr.refl _ _).alloc _) (fun _ _ z => z)
  obtain ⟨v, hv, hvo, hvb⟩ := h1.value hs
  have hlk := mps_look Try.underlying76 Try.underlying9 h1.mp (.slice none 0 0) (hz_u8s W1) s false
  rw [hv] at hlk
  simp only [Bool.false_eq_true, if_false, Option.getD_some] at hlk
  obtain ⟨W2, hu, hm, hg, hz⟩ := mps_del Try.underlying76 Try.underlying9 h1.mp s 0
  have h2 := h1.del s hm hg
  have hvo2 : Own 0 W2 v xs.length xs := own_gr hvo hg (fun k hk => (h1.ov s v k hv hk).2)
  obtain ⟨W3, hu3, hm3, hg3, hz3⟩ := mps_upd Try.underlying76 Try.underlying9 h2.mp t v
  have HG : Hid (FdoA O w b (fset (fset F s none) t (some xs)) (.returned (.tuple #[])) W3) := by
    refine ⟨rfl, ⟨_, h2.put (fun k hk => .inl hk) t v xs hm3 (own_gr hvo2 hg3 (fun k hk => (h1.ov s v k hv hk).2)) hvb (fun q u ys ht hq ho => own_gr ho hg3 (fun k hk => (h2.ov q u k hq hk).2)) (fun k hk => ⟨.inl (h1.ov s v k hv hk).1, (h1.ov s v k hv hk).2, fun q u hqt hq => ?_⟩)⟩, g1.trans ((grO h.ob hg).trans (grO h.ob hg3))⟩
    by_cases hqs : q = s
    · subst hqs; rw [fset_same] at hq; cases hq
    · rw [fset_other _ _ _ _ hqs] at hq
      exact h1.apart s q v u k (fun e => hqs e.symm) hv hq hk
  have hc2 : W2.cell? ⟨w.heap.size, 1, none⟩ = some (.string t) := by
    have hb1 : Bk 127 W1 w.heap.size #[.string s, .string t] := by rw [hW1]; exact (blk_new w _ _).1
    exact (hb1.gr hg (fun e => by have := h.mp.lt; omega)).cell 1
  rw [hW1] at hu hlk
  have ht1 : ∀ W, (Instr.typeAssert (.iface 127 (.agg #[.string s, .string t])) 123 118 true).run Try.prog W = .ok (.tuple #[.agg #[.string ByteArray.empty], .bool false]) W := fun W => by kernel_rfl
  have ht2 : ∀ W, (Instr.typeAssert (.iface 127 (.agg #[.string s, .string t])) 123 120 true).run Try.prog W = .ok (.tuple #[.agg #[.string ByteArray.empty, .slice none 0 0], .bool false]) W := fun W => by kernel_rfl
  have ht3 : ∀ W, (Instr.typeAssert (.iface 127 (.agg #[.string s, .string t])) 123 125 true).run Try.prog W = .ok (.tuple #[.agg #[.string ByteArray.empty, .int .i64 0], .bool false]) W := fun W => by kernel_rfl
  have ht4 : ∀ W, (Instr.typeAssert (.iface 127 (.agg #[.string s, .string t])) 123 127 true).run Try.prog W = .ok (.tuple #[.agg #[.string s, .string t], .bool true]) W := fun W => by kernel_rfl
  clear hg hW1 h h1 hm g1 hz hv hvo hvb h2 hvo2 hm3 hg3 hz3 hs
  go_enter Try.func77, Try.ntmps77
  go_wp2
  go_end0
  exact HG.out
end Go.Proofs.Yteoohgjoffpmkaa
