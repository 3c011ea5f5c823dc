/-
  Texts compared; what span past and Empty answer. No condition.
-/
import Derived.Test.YtdjcokepeifojaaNGw
namespace Go.Proofs.Ytdjcokepeifojaa
set_option linter.unusedVariables false
open Go.RowKit

theorem run_lss (s t : ByteArray) (W : World) : (binOp .lss 9 (.string s) (.string t)).run Try.prog W = .ok (.bool (tl s t)) W := by
  simp [binOp, Op.stringOp, tl]
theorem run_geq (s t : ByteArray) (W : World) : (binOp .geq 9 (.string s) (.string t)).run Try.prog W = .ok (.bool (!tl s t)) W := by
  simp [binOp, Op.stringOp, tl]
theorem tl_not (s t : ByteArray) : (tl s t || (s.toList == t.toList)) = !tl t s := by
  rw [te_iff]
  by_cases h : s = t
  · subst h; simp [tl_irrefl]
  · rcases tl_total h with h1 | h1
    · simp [h1, tl_asymm h1]
    · simp [h1, tl_asymm h1, h]
theorem run_leq (s t : ByteArray) (W : World) : (binOp .leq 9 (.string s) (.string t)).run Try.prog W = .ok (.bool (!tl t s)) W := by
  have := tl_not s t
  unfold tl at this
  simp [binOp, Op.stringOp, tl, this]
theorem run_gtr (s t : ByteArray) (W : World) : (binOp .gtr 9 (.string s) (.string t)).run Try.prog W = .ok (.bool (tl t s)) W := by
  have := tl_not s t
  unfold tl at this
  simp only [binOp, Op.stringOp, tl, this, Bool.not_not]
  rfl
theorem nil_iff (s : ByteArray) : s.toList = [] ↔ s = .empty := by
  have := te_iff s .empty
  rw [show ByteArray.empty.toList = [] from by rw [ByteArray.toList_eq]; rfl] at this
  by_cases h : s = .empty
  · simp [h, show ByteArray.empty.toList = [] from by rw [ByteArray.toList_eq]; rfl]
  · simp [h] at this; simp [h]; exact fun e => this e
theorem past_no {f u t : ByteArray} (h : u.toList = []) : rPast (f, u) t = false := by unfold rPast; simp [(nil_iff u).1 h]
theorem past_yes {f u t : ByteArray} (h : ¬ u.toList = []) : rPast (f, u) t = !tl t u := by
  have hne : u ≠ .empty := fun e => h ((nil_iff u).2 e)
  unfold rPast; simp [hne]
theorem ne_nil {u : ByteArray} (h : ¬ u.toList = []) : u.toList.isEmpty = false := by
  cases e : u.toList with
  | nil => exact absurd e h
  | cons _ _ => rfl
theorem past_c (r : Rg) (t : ByteArray) (w : World) : Calls Try.prog 19 #[rv r, .string t] w fun e w' => e = .returned (.bool (rPast r t)) ∧ w.grownBy w' none := by
  obtain ⟨f, u⟩ := r
  have h1 := run_leq u t
  by_cases hu : u.toList = []
  · rw [past_no hu]
    unfold rv
    go_enter Try.func19, Try.ntmps19
    go_wp2
    go_ret
    exact ⟨rfl, gb_alloc _ _⟩
  · rw [past_yes hu]
    have hu' := ne_nil hu
    unfold rv
    generalize (!tl t u) = b at *
    go_enter Try.func19, Try.ntmps19
    go_wp2
    go_ret
    exact ⟨rfl, gb_alloc _ _⟩
theorem info28 : (Try.prog.info? 39).map (·.size) = some 2 := by kernel_rfl
theorem info29 : (Try.prog.info? 68).map (·.size) = some 2 := by kernel_rfl
theorem empty_c (r : Rg) (w : World) : Calls Try.prog 45 #[rv r] w fun e w' => e = .returned (.bool (rEmpty r)) ∧ w.grownBy w' none := by
  have HP : Hid _ := fun w => past_c r r.1 w
  obtain ⟨f, u⟩ := r
  have HN : Hid _ := (blk_new w 39 #[.string f, .string u])
  unfold rEmpty
  unfold rv at *
  generalize rPast (f, u) (f, u).1 = b at *
  go_enter Try.func45, Try.ntmps45
  go_wp2_with (first
    | (go_at_call 19; go_must (refine (HP.out _).mono ?_); rintro e w1 ⟨rfl, h1⟩)
    | (refine wpList_load_bk 39 rfl (.tmp 1) rfl Try.underlying39 rfl info28 w.heap.size #[.string f, .string u] rfl HN.out.1 rfl ?_))
  go_ret
  exact ⟨rfl, gb_trans HN.out.2 h1⟩
theorem two_one (a b : ByteArray) : (#[Value.string a, Value.string b] : Array Value).all (·.oneCell') = true := by simp [Value.oneCell']
theorem nil_is {T : ByteArray} (h : T = .empty) : T.toList = [] ∧ T.toList.isEmpty = true := by
  have := (nil_iff T).2 h
  rw [this]; exact ⟨rfl, rfl⟩
theorem nil_not {T : ByteArray} (h : ¬ T = .empty) : ¬ T.toList = [] ∧ T.toList.isEmpty = false := by
  have : ¬ T.toList = [] := fun e => h ((nil_iff T).1 e)
  exact ⟨this, ne_nil this⟩

end Go.Proofs.Ytdjcokepeifojaa
