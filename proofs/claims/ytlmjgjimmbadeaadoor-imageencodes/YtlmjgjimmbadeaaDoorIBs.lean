/-
  Rows in memory; what image's numbers, follows, laid and sumOf answer. Condition: lengths that a machine has.
-/
import Derived.Test.YtlmjgjimmbadeaaDoorFb
import Derived.Test.YtlmjgjimmbadeaaDoorWRow
import Derived.Test.YtlmjgjimmbadeaaDoorTbA
import Derived.Test.YtlmjgjimmbadeaaDoorCrA
namespace Go.Proofs.YtlmjgjimmbadeaaDoor
open Go.RowKit
set_option linter.unusedVariables false

theorem gbb {a b : World} (h : a.grownBy b none) : Below a.heap.size a b := ⟨h.os, h.tape, h.output, h.size, fun i hi => h.block i hi (fun e => by cases e)⟩
theorem bgb {a b : World} (h : Below a.heap.size a b) : a.grownBy b none := grownBy_below h none
theorem gal (a : World) (o : Obj) : a.grownBy (a.alloc o) none := World.grownBy_alloc _ _ _
theorem grf (a : World) : a.grownBy a none := World.grownBy.refl _ _
theorem WM.uint {B w wr ys} (h : WM B w wr ys 0) (V : Int) (h0 : 0 ≤ V) (h1 : V < 18446744073709551616) (hb : ys.length + 10 ≤ 140737488355328) : Calls Tryd.prog 73 #[.pointer (some ⟨B, 0, none⟩), .int .u64 V] wr fun r w' => r = .returned (.tuple #[]) ∧ WM B w w' (ys ++ enc V.toNat) 0 :=
  h.goes (fun fs hs => by
    have k := wuint_c B ys 0 V fs wr hs h0 h1 hb
    rw [show wadd 0 ys (enc V.toNat) = ys ++ enc V.toNat from if_pos rfl] at k
    exact k)
theorem WM.size {B w wr ys e} (h : WM B w wr ys e) : Calls Tryd.prog 77 #[.pointer (some ⟨B, 0, none⟩)] wr fun r w' => r = .returned (.int .i64 (ys.length : Int)) ∧ w' = wr := by
  obtain ⟨fs, h1, _⟩ := h
  exact wsize_c B ys e fs wr h1
/-- The bytes of some numbers. -/
def numB (vs : List Int) : List Int := vs.flatMap (fun v => enc v.toNat)
theorem numB_take (vs : List Int) (k : Nat) (h : k < vs.length) : numB (vs.take (k + 1)) = numB (vs.take k) ++ enc (vs[k]?.getD 0).toNat := by
  unfold numB
  rw [List.take_add_one, List.flatMap_append, List.getElem?_eq_getElem h]
  simp
set_option maxRecDepth 20000 in
set_option maxHeartbeats 1000000 in
theorem numbers_c (b n cap : Nat) (vs : List Int) (w : World) (h : Seg .i64 w (some ⟨b, 0, none⟩) n vs) (hv : ∀ i, i < n → 0 ≤ vs[i]?.getD 0 ∧ vs[i]?.getD 0 < 9223372036854775808) (hn : n ≤ 10) :
    Calls Tryd.prog 43 #[.slice (some ⟨b, 0, none⟩) n cap] w fun r w' => r = .returned (.int .i64 ((numB vs).length : Int)) ∧ w.grownBy w' none := by
  have HS : Hid (Seg .i64 w (some ⟨b, 0, none⟩) n vs ∧ ∀ i, i < n → 0 ≤ vs[i]?.getD 0 ∧ vs[i]?.getD 0 < 9223372036854775808) := ⟨h, hv⟩
  obtain ⟨B, hB⟩ : ∃ B, B = w.heap.size := ⟨_, rfl⟩
  have HBW : Hid (B = w.heap.size) := hB
  clear h hv
  go_enter Tryd.func43, Tryd.ntmps43
  go_wp2_with fail
  rw [← hB]
  generalize hW1 : World.alloc w _ = W1
  have H1 : Hid (WM B w W1 [] 0) := by
    rw [← hW1, hB]
    exact ⟨[], ws_none (heap_new w _), by simp, (Below.refl _ _).alloc (Nat.le_refl _) _, by simp⟩
  clear hW1 hB
  go_wp2_with fail
  go_loopw [8] (fun i wr => ∃ k : Nat, k ≤ n ∧ i = .int .i64 (k : Int) ∧ Hid (WM B w wr (numB (vs.take k)) 0 ∧ (numB (vs.take k)).length ≤ 10 * k)) (fun i _ => n - (intOf i).toNat)
  case atStart => exact ⟨0, Nat.zero_le _, rfl, H1.out, by simp [numB]⟩
  case round =>
    obtain ⟨k, hk, rfl, hr⟩ := hrel
    clear H1
    by_cases hlt : k < n
    · have hi1 : (k : Int) < n := by omega
      obtain ⟨V, hV⟩ : ∃ V, V = vs[k]?.getD 0 := ⟨_, rfl⟩
      have hVb := HS.out.2 k hlt
      rw [← hV] at hVb
      have hcell : wr.cell? ⟨b, k, none⟩ = some (.int .i64 V) := by
        rcases HS.out.1.2 with z | ⟨b', off, q, hb, hc⟩
        · omega
        · cases q
          obtain ⟨_, _, _, hbel, _⟩ := hr.out.1
          rw [hbel.cell (p := ⟨b, k, none⟩) (by rw [HBW.out]; exact hb)]
          have := hc k hlt
          rw [Nat.zero_add] at this
          rw [this, hV]
      have HT : Hid (numB (vs.take (k + 1)) = numB (vs.take k) ++ enc V.toNat ∧ (numB (vs.take (k + 1))).length ≤ 10 * (k + 1)) := by
        have e := numB_take vs k (by rw [HS.out.1.1]; exact hlt)
        rw [← hV] at e
        have := enc_leN V.toNat (by omega)
        exact ⟨e, by rw [e, List.length_append]; have := hr.out.2; omega⟩
      have h0 := hVb.1
      have h1 := hVb.2
      have HU : Hid (Calls Tryd.prog 73 #[.pointer (some ⟨B, 0, none⟩), .int .u64 V] wr fun r w' => r = .returned (.tuple #[]) ∧ WM B w w' (numB (vs.take (k + 1))) 0) := by
        have k := hr.out.1.uint V (by omega) (by omega) (by have := hr.out.2; omega)
        rw [← HT.out.1] at k
        exact k
      clear hV hVb
      go_wp2_with (go_at_call 73; go_must (refine (Calls.mono HU.out ?_)); rintro r x1 ⟨rfl, h⟩; have A1 : Hid (WM B w x1 (numB (vs.take (k + 1))) 0) := h; clear h)
      go_roundw
      case rel => exact ⟨k + 1, by omega, by go_num, A1.out, HT.out.2⟩
      case measure => simp [intOf]; omega
    · obtain rfl : k = n := by omega
      have hge : ¬ (k : Int) < k := by omega
      have e : vs.take k = vs := List.take_of_length_le (by rw [HS.out.1.1]; exact Nat.le_refl _)
      rw [e] at hr
      have HZ : Hid (Calls Tryd.prog 77 #[.pointer (some ⟨B, 0, none⟩)] wr fun r w' => r = .returned (.int .i64 ((numB vs).length : Int)) ∧ w' = wr) := hr.out.1.size
      have HG : Hid (w.grownBy wr none) := by
        obtain ⟨_, _, _, hbel, _⟩ := hr.out.1
        rw [HBW.out] at hbel
        exact bgb hbel
      clear e hr
      go_wp2_with (go_at_call 77; go_must (refine (Calls.mono HZ.out ?_)); rintro r wq ⟨rfl, hq⟩; obtain rfl := hq.symm)
      go_ret
      exact ⟨rfl, HG.out⟩
/-- A row: key, value, version. -/
structure Rwi where
  k : ByteArray
  v : ByteArray
  n : Int
def Rwi.cells (r : Rwi) : List Value := [.string r.k, .string r.v, .int .i64 r.n]
def Rwi.err (r : Rwi) : Int := Tb.rowE (r.k, r.v, r.n)
def Rwi.bytes (r : Rwi) : List Int := rowB r.k r.v r.n
def gtI (s t : ByteArray) : Bool := !(Op.bytesLess s.toList t.toList || s.toList == t.toList)
theorem run_gtI (s t : ByteArray) : ∀ W, (binOp .gtr 9 (.string s) (.string t)).run Tryd.prog W = .ok (.bool (gtI s t)) W := fun W => by
  rfl
/-- Whether a row may stand behind a key, in a state of that number. -/
def fwI (r : Rwi) (ahead : ByteArray) (seq : Int) : Bool := (r.err == 0) && gtI r.k ahead && decide (r.n ≤ seq)
end Go.Proofs.YtlmjgjimmbadeaaDoor
