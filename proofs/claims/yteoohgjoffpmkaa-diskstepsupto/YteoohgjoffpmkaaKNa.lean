/-
  What disk's isName answers of one letter; what ready, have and begin answer of a new disk. No condition.
-/
import Derived.Test.YteoohgjoffpmkaaFa
namespace Go.Proofs.Yteoohgjoffpmkaa
open Go.RowKit
set_option linter.unusedVariables false

theorem grownBy_cell (w : World) (g i : Nat) (v : Value) : w.grownBy (w.setCell ⟨g, i, none⟩ v) (some g) :=
  ⟨rfl, rfl, rfl, by simp [World.setCell], fun k _ hk => Below.heap_setCell _ _ _ _ (fun e => hk (by rw [e]))⟩
theorem bk_setK {T w b cs} (h : Bk T w b cs) (i : Nat) (v : Value) : Bk T (w.setCell ⟨b, i, none⟩ v) b (cs.setIfInBounds i v) := by
  unfold Bk at h ⊢
  simp only [World.setCell, Array.getElem?_modify]
  rw [if_pos trivial, h]; rfl
def sA : ByteArray := ⟨#[97]⟩
theorem letter_c (w : World) : Calls Try.prog 70 #[.int .u8 97] w fun r w' => r = .returned (.bool true) ∧ w' = w := by
  go_enter Try.func70, Try.ntmps70
  go_wp2
  go_ret
  exact ⟨rfl, rfl⟩
theorem allb_c (b off c : Nat) (w : World) (h : w.cell? ⟨b, off, none⟩ = some (.int .u8 97)) : Calls Try.prog 69 #[.slice (some ⟨b, off, none⟩) 1 c, .func (.func 70) #[] #[]] w fun r w' => r = .returned (.bool true) ∧ w' = w := by
  have HL : Hid _ := letter_c w
  go_enter Try.func69, Try.ntmps69
  go_wp2
  refine wp_loop_rounds 2 ?_
  rw [rounds_succ]
  go_wp2_with (go_at_call 70; go_must (refine (Calls.mono HL.out ?_)); rintro r wq ⟨rfl, hq⟩; obtain rfl := hq.symm; clear hq)
  rw [rounds_succ]
  go_wp2
  go_ret
  exact ⟨rfl, rfl⟩
theorem name_c (w : World) : Calls Try.prog 36 #[.string sA] w fun r w' => r = .returned (.bool true) ∧ Below w.heap.size w w' := by
  obtain ⟨W, C, h1, h2, h3⟩ := str_bytesK sA w (by decide)
  have hc : W.cell? ⟨w.heap.size, 0, none⟩ = some (.int .u8 97) := by
    rcases h2.2 with z | ⟨b, off, e, _, hc⟩
    · exact absurd z (by decide)
    · cases e
      exact hc 0 (by decide)
  have HA : Hid _ := allb_c w.heap.size 0 C W hc
  have HB : Hid (Below w.heap.size w W) := h3
  have hs : sA.size = 1 := rfl
  clear h2 h3 hc
  rw [hs] at h1
  unfold sA at h1 ⊢
  go_enter Try.func36, Try.ntmps36
  go_wp2_with (go_at_call 69; go_must (refine (Calls.mono HA.out ?_)); rintro r wq ⟨rfl, hq⟩; obtain rfl := hq.symm; clear hq)
  go_ret
  exact ⟨rfl, HB.out⟩
theorem alls_c (b : Nat) (w : World) (h : w.cell? ⟨b, 0, none⟩ = some (.string sA)) : Calls Try.prog 76 #[.slice (some ⟨b, 0, none⟩) 1 1, .func (.func 36) #[] #[]] w fun r w' => r = .returned (.bool true) ∧ Below w.heap.size w w' := by
  have HL : Hid _ := name_c w
  unfold sA at HL h
  go_enter Try.func76, Try.ntmps76
  go_wp2
  refine wp_loop_rounds 2 ?_
  rw [rounds_succ]
  go_wp2_with (go_at_call 36; go_must (refine (Calls.mono HL.out ?_)); rintro r w1 ⟨rfl, h1⟩; have H1 : Hid (Below w.heap.size w w1) := h1; clear h1)
  rw [rounds_succ]
  go_wp2
  go_ret
  exact ⟨rfl, H1.out⟩
theorem made_so (g : Nat) (room free : Int) (s l : Nat) (st : Value) (pend acts fail : Int) (down : Bool) (w : World) (h : Bk 83 w g (dcells room free (some s) (some l) st pend acts fail down)) : Calls Try.prog 53 #[.pointer (some ⟨g, 0, none⟩)] w fun r w' => r = .returned (.bool true) ∧ w' = w := by
  have c2 : w.cell? ⟨g, 2, none⟩ = some (.map (some s)) := Bk.cell h 2
  have hz := neq_map0 (some s)
  clear h
  go_enter Try.func53, Try.ntmps53
  go_wp2
  go_ret
  exact ⟨rfl, rfl⟩
theorem ready_so (g b : Nat) (room free : Int) (s l : Nat) (st : Value) (pend acts fail : Int) (w : World) (h : Bk 83 w g (dcells room free (some s) (some l) st pend acts fail false)) (hb : w.cell? ⟨b, 0, none⟩ = some (.string sA)) : Calls Try.prog 54 #[.pointer (some ⟨g, 0, none⟩), .slice (some ⟨b, 0, none⟩) 1 1] w fun r w' => r = .returned (.int .i64 0) ∧ Below w.heap.size w w' := by
  have HM : Hid _ := made_so g room free s l st pend acts fail false w h
  have HL : Hid _ := alls_c b w hb
  have c8 : w.cell? ⟨g, 8, none⟩ = some (.bool false) := Bk.cell h 8
  clear h hb
  go_enter Try.func54, Try.ntmps54
  go_wp2_with (first
    | (go_at_call 53; go_must (refine (Calls.mono HM.out ?_)); rintro r wq ⟨rfl, hq⟩; obtain rfl := hq.symm; clear hq)
    | (go_at_call 76; go_must (refine (Calls.mono HL.out ?_)); rintro r w1 ⟨rfl, h1⟩; have H1 : Hid (Below w.heap.size w w1) := h1; clear h1))
  go_ret
  exact ⟨rfl, H1.out⟩
theorem look_map0 (w : World) (b c : Nat) (s : ByteArray) (h : w.heap[b]? = some (.map #[] c)) : (Instr.lookup 76 (.map (some b)) (.string s) true).run Try.prog w = .ok (.tuple #[.slice none 0 0, .bool false]) w := by
  have hz : (zeroValue 57).run Try.prog w = .ok (.slice none 0 0) w := by kernel_rfl
  have hk : (Instr.checkKey true 10000 9 (.string s)).run Try.prog w = .ok () w := MapKept.run_checkKey Try.underlying9 (by simp [MapKept.IsKey]) true 9999
  have hf : (Instr.findKey 9 (.string s) []).run Try.prog w = .ok none w := MapKept.run_findKey Try.underlying9 (by simp [Instr.findNow])
  simp [Instr.lookup, run_underlying Try.underlying76, MapKept.run_getObj_map h, hz, hk, hf]
theorem have0_c (b : Nat) (s : ByteArray) (w : World) (h : Mp0 w b) : Calls Try.prog 37 #[.map (some b), .string s] w fun r w' => r = .returned (.bool false) ∧ w' = w := by
  obtain ⟨c, h⟩ := h
  have hl := look_map0 w b c s h
  go_enter Try.func37, Try.ntmps37
  go_wp2
  go_ret
  exact ⟨rfl, rfl⟩
theorem begin0_c (g : Nat) (room free need : Int) (s l : Option Nat) (st : Value) (pend acts : Int) (w : World) (h : Bk 83 w g (dcells room free s l st pend acts 0 false)) (hn : need ≤ free) (ha : 0 ≤ acts) (ha2 : acts ≤ 1000000) : Calls Try.prog 55 #[.pointer (some ⟨g, 0, none⟩), .int .i64 need] w fun r w' => r = .returned (.int .i64 0) ∧ Bk 83 w' g (dcells room free s l st pend (acts + 1) 0 false) ∧ w.grownBy w' (some g) := by
  have c1 : w.cell? ⟨g, 1, none⟩ = some (.int .i64 free) := Bk.cell h 1
  have c6 : w.cell? ⟨g, 6, none⟩ = some (.int .i64 acts) := Bk.cell h 6
  have c7 : w.cell? ⟨g, 7, none⟩ = some (.int .i64 0) := Bk.cell h 7
  have f6 : w.frozen? ⟨g, 6, none⟩ = false := frozen_of_row w g 6 _ _ h
  have hw : wrap64 (acts + 1) = acts + 1 := IntWalk.wrap64_in _ ⟨by omega, by omega⟩
  have hw2 : IntKind.i64.wrap (acts + 1) = acts + 1 := IntWalk.i64_in _ ⟨by omega, by omega⟩
  have hn2 : ¬ free < need := by omega
  have H1 : Hid (Bk 83 (w.setCell ⟨g, 6, none⟩ (.int .i64 (acts + 1))) g (dcells room free s l st pend (acts + 1) 0 false) ∧ w.grownBy (w.setCell ⟨g, 6, none⟩ (.int .i64 (acts + 1))) (some g)) := ⟨bk_setK h 6 _, grownBy_cell _ _ _ _⟩
  have c7' : (w.setCell ⟨g, 6, none⟩ (.int .i64 (acts + 1))).cell? ⟨g, 7, none⟩ = some (.int .i64 0) := Bk.cell H1.out.1 7
  clear h
  go_enter Try.func55, Try.ntmps55
  go_wp2
  go_ret
  exact ⟨rfl, H1.out⟩
end Go.Proofs.Yteoohgjoffpmkaa
