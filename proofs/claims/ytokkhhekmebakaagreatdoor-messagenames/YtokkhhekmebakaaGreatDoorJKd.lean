/-
  The program's list of kinds (names, ways) as memory holds it, and what message.isKind, ways and Name answer. Condition: the list lies in memory as the program's text lays it.
-/
import Derived.Test.YtokkhhekmebakaaGreatDoorRows
import Derived.Test.YtokkhhekmebakaaGreatDoorJTb
import Derived.OpenShut
import Derived.ChangeSame
import Derived.Lib.LaidTab
import Derived.Tactics2
import Derived.Deep.DeepMust
import Derived.Deep.Light
import Derived.Deep.MidRow
namespace Go.Proofs.YtokkhhekmebakaaGreatDoor
open Go.RowKit
set_option linter.unusedVariables false

/-- The list's cells. -/
def Knd (w : World) : Prop := ∀ k, k < 29 → w.cell? ⟨0, 2 * k, none⟩ = some (.string (tnm k)) ∧ w.cell? ⟨0, 2 * k + 1, none⟩ = some (.string (ttx k))
theorem Knd.pos {w : World} (h : Knd w) : 0 < w.heap.size := by
  have := (h 0 (by omega)).1
  rcases Nat.lt_or_ge 0 w.heap.size with h | h
  · exact h
  · simp [World.cell?, Array.getElem?_eq_none h] at this
theorem Knd.below {w w' : World} (h : Knd w) (hb : Below w.heap.size w w') : Knd w' := fun k hk =>
  ⟨(hb.cell (p := ⟨0, 2 * k, none⟩) h.pos).trans (h k hk).1, (hb.cell (p := ⟨0, 2 * k + 1, none⟩) h.pos).trans (h k hk).2⟩
theorem Knd.block {w w' : World} (h : Knd w) (hb : w'.heap[0]? = w.heap[0]?) : Knd w' := fun k hk =>
  ⟨(World.cell?_of_block (w := w) (a := ⟨0, 2 * k, none⟩) hb).trans (h k hk).1, (World.cell?_of_block (w := w) (a := ⟨0, 2 * k + 1, none⟩) hb).trans (h k hk).2⟩
theorem Knd.gb {w w' : World} (h : Knd w) (hb : w.grownBy w' none) : Knd w' := h.block (hb.block _ h.pos (by simp))

theorem at_take {l : List Value} {k : Nat} {v : Value} (h : (l.drop k).take 1 = [v]) : l[k]? = some v := by
  have := congrArg (fun x => x[0]?) h
  simpa using this
theorem bytes_is {s : ByteArray} {l : List UInt8} (h : (DataW.lit (.string l) : DataW Unit) = .lit (.string s.data.toList)) : s = ⟨l.toArray⟩ := by
  injection h with h
  injection h with h
  subst h
  rfl
/-- A list of pairs of texts that is laid is what its cells hold. -/
theorem pairs_of {P : Program} {enc : TypeId × Value → Unit} {w : World} {base : Nat} {sp : Nat → Bool} {held : Bool} {fuel : Nat} {t e : TypeId} {n : Nat} {f0 f1 : Field} {cs : List Value} {L : List (List UInt8 × List UInt8)} {p : List MemPlace}
    (ht : P.underlying t = some (.array n e)) (he : P.underlying e = some (.struct #[f0, f1])) (h0 : P.underlying f0.type = some .string) (h1 : P.underlying f1.type = some .string) (hc0 : P.cellsOf f0.type = 1) (hc1 : P.cellsOf f1.type = 1) (ho0 : f0.offset = 0) (ho1 : f1.offset = 1) (hce : P.cellsOf e = 2)
    (h : DataW.trod enc P w base sp held fuel t cs = some (.agg (L.map fun q => .agg [.lit (.string q.1), .lit (.string q.2)]), p)) :
    ∀ k, k < L.length → cs[2 * k]? = some (.string ⟨(L.getD k ([], [])).1.toArray⟩) ∧ cs[2 * k + 1]? = some (.string ⟨(L.getD k ([], [])).2.toArray⟩) := by
  intro k hk
  obtain ⟨xs, m, _, hx, hl, hn, ha⟩ := DataW.trod_array ht h
  have hxs : xs.map (·.1) = L.map fun q => (.agg [.lit (.string q.1), .lit (.string q.2)] : DataW Unit) := by
    have := congrArg Prod.fst hx
    simp only [DataW.agg.injEq] at this
    exact this.symm
  have hxl : xs.length = L.length := by simpa using congrArg List.length hxs
  have hk' := ha k (by omega)
  rw [hce] at hk'
  have hxk : xs[k]? = some xs[k] := List.getElem?_eq_getElem (by omega)
  rw [hxk] at hk'
  obtain ⟨y0, y1, n', hx', hl', g0, g1⟩ := Go.ChangeShapes.trod_struct2 he hk'
  obtain ⟨s0, e0, q0, _⟩ := DataW.trod_string h0 g0
  obtain ⟨s1, e1, q1, _⟩ := DataW.trod_string h1 g1
  rw [ho0, hc0] at e0
  rw [ho1, hc1] at e1
  have hq := congrArg (fun l => l[k]?) hxs
  simp only [List.getElem?_map, hxk, List.getElem?_eq_getElem hk, Option.map_some, Option.some.injEq] at hq
  rw [hx'] at hq
  simp only [DataW.agg.injEq, List.cons.injEq, and_true] at hq
  rw [q0, q1] at hq
  obtain ⟨a, b⟩ := hq
  have hg : L.getD k ([], []) = L[k] := by simp [List.getD, hk]
  have a' := bytes_is a.symm
  have b' := bytes_is b.symm
  rw [hg, ← a', ← b']
  have c0 := at_take e0
  have c1 := at_take e1
  simp only [List.getElem?_take, List.getElem?_drop] at c0 c1
  rw [if_pos (by omega), Nat.mul_comm] at c0 c1
  exact ⟨c0, c1⟩

/-- Is a number a kind's? -/
def isK (n : Int) : Bool := decide (1 ≤ n) && decide (n ≤ 28)
theorem isK_true {n : Int} (h : isK n = true) : 1 ≤ n ∧ n ≤ 28 := by simpa [isK] using h
theorem isKind_c (n : Int) (w : World) : Calls Tryz.prog 25 #[.int .i64 n] w fun r w' => r = .returned (.bool (isK n)) ∧ w' = w := by
  by_cases h1 : 1 ≤ n <;> by_cases h2 : n ≤ 28
  all_goals
    have hb : isK n = (decide (1 ≤ n) && decide (n ≤ 28)) := rfl
    simp only [h1, h2, decide_true, decide_false, Bool.and_true, Bool.and_false] at hb
    rw [hb]
    clear hb
    go_enter Tryz.func25, Tryz.ntmps25
    go_wp2
    go_ret
    exact ⟨rfl, rfl⟩
theorem kind_at (n : Int) (h : isK n = true) : ∃ k : Nat, k < 29 ∧ n = (k : Int) := ⟨n.toNat, by have := isK_true h; omega, by have := isK_true h; omega⟩
/-- A kind's name; its ways. -/
def nmK (n : Int) : ByteArray := if isK n then tnm n.toNat else ⟨#[]⟩
def wyK (n : Int) : ByteArray := if isK n then ttx n.toNat else ⟨#[]⟩
theorem name_c (n : Int) (w : World) (HK : Knd w) : Calls Tryz.prog 9 #[.int .i64 n] w fun r w' => r = .returned (.string (nmK n)) ∧ w' = w := by
  have HL : Hid _ := isKind_c n w
  cases hb : isK n
  · have hn : Hid (nmK n = _) := (by simp only [nmK, hb]; rfl : nmK n = ⟨#[]⟩)
    go_enter Tryz.func9, Tryz.ntmps9
    go_wp2_with (go_at_call 25; go_must (refine (Calls.mono HL.out ?_)); rintro r wq ⟨rfl, hq⟩; obtain rfl := hq.symm; clear hq; rw [hb])
    go_ret
    exact ⟨by rw [hn.out]; rfl, rfl⟩
  · obtain ⟨k, hk, rfl⟩ := kind_at n hb
    have hn : Hid (nmK k = _) := (by simp only [nmK, hb, if_true, Int.toNat_natCast] : nmK k = tnm k)
    have hc := (HK k hk).1
    rw [Nat.mul_comm] at hc
    go_enter Tryz.func9, Tryz.ntmps9
    go_wp2_with (go_at_call 25; go_must (refine (Calls.mono HL.out ?_)); rintro r wq ⟨rfl, hq⟩; obtain rfl := hq.symm; clear hq; rw [hb])
    go_ret
    exact ⟨by rw [hn.out]; rfl, rfl⟩
theorem ways_c (n : Int) (w : World) (HK : Knd w) : Calls Tryz.prog 124 #[.int .i64 n] w fun r w' => r = .returned (.string (wyK n)) ∧ w' = w := by
  have HL : Hid _ := isKind_c n w
  cases hb : isK n
  · have hn : Hid (wyK n = _) := (by simp only [wyK, hb]; rfl : wyK n = ⟨#[]⟩)
    go_enter Tryz.func124, Tryz.ntmps124
    go_wp2_with (go_at_call 25; go_must (refine (Calls.mono HL.out ?_)); rintro r wq ⟨rfl, hq⟩; obtain rfl := hq.symm; clear hq; rw [hb])
    go_ret
    exact ⟨by rw [hn.out]; rfl, rfl⟩
  · obtain ⟨k, hk, rfl⟩ := kind_at n hb
    have hn : Hid (wyK k = _) := (by simp only [wyK, hb, if_true, Int.toNat_natCast] : wyK k = ttx k)
    have hc := (HK k hk).2
    rw [Nat.mul_comm] at hc
    go_enter Tryz.func124, Tryz.ntmps124
    go_wp2_with (go_at_call 25; go_must (refine (Calls.mono HL.out ?_)); rintro r wq ⟨rfl, hq⟩; obtain rfl := hq.symm; clear hq; rw [hb])
    go_ret
    exact ⟨by rw [hn.out]; rfl, rfl⟩
theorem jkind_c (n : Int) (w : World) : Calls Tryz.prog 28 #[.int .i64 n] w fun r w' => r = .returned (.bool (isK n)) ∧ w.grownBy w' none := by
  have HT : Hid _ := table_c w
  by_cases h1 : 1 ≤ n <;> cases h4 : decide (n < 29)
  all_goals
    have h3 : decide (n ≤ 28) = decide (n < 29) := by
      congr 1
      apply propext
      omega
    have hb : isK n = (decide (1 ≤ n) && decide (n ≤ 28)) := rfl
    rw [h3] at hb
    simp only [h1, h4, decide_true, decide_false, Bool.and_true, Bool.and_false] at hb
    rw [hb]
    clear hb h3
    go_enter Tryz.func28, Tryz.ntmps28
    go_wp2_with (go_at_call 8; go_must (refine (Calls.mono HT.out ?_)); rintro r w1 ⟨b, rfl, ht, hg⟩; have H1 : Hid (Tb w1 b ∧ w.grownBy w1 none) := ⟨ht, hg⟩; clear ht hg)
    go_ret
    exact ⟨by first | rfl | (simp only [h4]; rfl), by first | exact H1.out.2 | exact gb_rf w⟩
end Go.Proofs.YtokkhhekmebakaaGreatDoor
