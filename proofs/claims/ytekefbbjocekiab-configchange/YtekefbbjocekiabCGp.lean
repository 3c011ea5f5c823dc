/-
  Configurations as plain data: whether one may be, where a node stands, what comes with and without a node. No condition.
-/
import Derived.Test.YtekefbbjocekiabCGo
namespace Go.Proofs.Ytekefbbjocekiab
open Go.RowKit
set_option linter.unusedVariables false

/-- The nodes of a chain may be there, each once. -/
def GoodN (xs : List Int) : Prop := (∀ x ∈ xs, 1 ≤ x ∧ x ≤ 8) ∧ xs.Nodup
instance (xs : List Int) : Decidable (GoodN xs) := by unfold GoodN; infer_instance
/-- Check's answer. -/
def chk (e : Int) (xs : List Int) : Int := if 1 ≤ e ∧ e ≤ 1099511627776 then (if 1 ≤ xs.length ∧ xs.length ≤ 8 then (if GoodN xs then 0 else 161) else 162) else 160
/-- A node's place, from 0 on; -1: it is not there. -/
def pla (xs : List Int) (n : Int) : Int := if n ∈ xs then (xs.idxOf n : Int) else -1
/-- The cells of the array of places. -/
def plcs (xs : List Int) : List Value := (List.range 9).map fun j => Value.int .i64 (pla xs (j : Nat) + 1)
theorem pla_no {xs : List Int} {n : Int} (h : n ∉ xs) : pla xs n = -1 := if_neg h
theorem pla_yes {xs : List Int} {n : Int} (h : n ∈ xs) : pla xs n = (xs.idxOf n : Int) := if_pos h
theorem pla_bd (xs : List Int) (n : Int) : -1 ≤ pla xs n ∧ pla xs n < xs.length := by
  unfold pla
  split
  · rename_i h
    have := List.idxOf_lt_length_of_mem h
    omega
  · omega
theorem pla_neg {xs : List Int} {n : Int} : pla xs n < 0 ↔ n ∉ xs := by
  unfold pla
  split
  · rename_i h; exact ⟨fun k => by omega, fun k => absurd h k⟩
  · rename_i h; exact ⟨fun _ => h, fun _ => by omega⟩
theorem plcs_length (xs : List Int) : (plcs xs).length = 9 := by simp [plcs]
theorem plcs_nil : plcs [] = List.replicate 9 (.int .i64 0) := by
  simp only [plcs, pla, List.not_mem_nil, if_false]; rfl
theorem plcs_at (xs : List Int) (n : Int) (h0 : 0 ≤ n) (h1 : n ≤ 8) : (plcs xs)[n.toNat]? = some (.int .i64 (pla xs n + 1)) := by
  unfold plcs
  rw [List.getElem?_map, List.getElem?_range (by omega)]
  simp only [Option.map_some]
  rw [Int.toNat_of_nonneg h0]
theorem pla_app (xs : List Int) (x n : Int) (hx : x ∉ xs) : pla (xs ++ [x]) n = if n = x then (xs.length : Int) else pla xs n := by
  unfold pla
  by_cases h : n = x
  · subst h
    rw [if_pos (by simp), if_pos rfl, List.idxOf_append, if_neg hx]
    simp
  · rw [if_neg h]
    by_cases hm : n ∈ xs
    · rw [if_pos (by simp [hm]), if_pos hm, List.idxOf_append, if_pos hm]
    · rw [if_neg (by simp [hm, h]), if_neg hm]
theorem plcs_step (xs : List Int) (x : Int) (h0 : 0 ≤ x) (h1 : x ≤ 8) (hx : x ∉ xs) : plcs (xs ++ [x]) = (plcs xs).set x.toNat (.int .i64 ((xs.length : Int) + 1)) := by
  apply List.ext_getElem?
  intro i
  rcases Nat.lt_or_ge i 9 with hi | hi
  · have e1 := plcs_at (xs ++ [x]) (i : Int) (by omega) (by omega)
    have e2 := plcs_at xs (i : Int) (by omega) (by omega)
    rw [Int.toNat_natCast] at e1 e2
    rw [e1, pla_app _ _ _ hx, List.getElem?_set]
    by_cases h : (i : Int) = x
    · rw [if_pos h, if_pos (by omega), if_pos (by rw [plcs_length]; omega)]
    · rw [if_neg h, if_neg (by omega), e2]
  · rw [List.getElem?_eq_none (by rw [plcs_length]; omega), List.getElem?_eq_none (by rw [List.length_set, plcs_length]; omega)]
theorem goodN_nil : GoodN [] := ⟨by simp, List.nodup_nil⟩
theorem goodN_step {xs : List Int} {k : Nat} {x : Int} (h : xs[k]? = some x) : GoodN (xs.take (k + 1)) ↔ GoodN (xs.take k) ∧ (1 ≤ x ∧ x ≤ 8) ∧ x ∉ xs.take k := by
  rw [List.take_add_one, h]
  unfold GoodN
  simp only [Option.toList_some, List.mem_append, List.mem_singleton]
  rw [List.nodup_append]
  constructor
  · rintro ⟨h1, h2, h3, h4⟩
    refine ⟨⟨fun y hy => h1 y (.inl hy), h2⟩, h1 x (.inr rfl), fun hm => h4 x hm x (by simp) rfl⟩
  · rintro ⟨⟨h1, h2⟩, h3, h4⟩
    refine ⟨fun y hy => hy.elim (h1 y) (fun e => e ▸ h3), h2, by simp, fun a ha b hb e => ?_⟩
    simp at hb
    subst hb
    exact h4 (e ▸ ha)
theorem goodN_take {xs : List Int} (h : GoodN xs) (k : Nat) : GoodN (xs.take k) :=
  ⟨fun x hx => h.1 x (List.mem_of_mem_take hx), h.2.sublist (List.take_sublist k xs)⟩
theorem chk_ok {e : Int} {xs : List Int} : chk e xs = 0 ↔ (1 ≤ e ∧ e ≤ 1099511627776) ∧ (1 ≤ xs.length ∧ xs.length ≤ 8) ∧ GoodN xs := by
  unfold chk
  by_cases h1 : 1 ≤ e ∧ e ≤ 1099511627776
  · rw [if_pos h1]
    by_cases h2 : 1 ≤ xs.length ∧ xs.length ≤ 8
    · rw [if_pos h2]
      by_cases h3 : GoodN xs
      · rw [if_pos h3]; exact ⟨fun _ => ⟨h1, h2, h3⟩, fun _ => rfl⟩
      · rw [if_neg h3]; exact ⟨fun h => absurd h (by decide), fun h => absurd h.2.2 h3⟩
    · rw [if_neg h2]; exact ⟨fun h => absurd h (by decide), fun h => absurd h.2.1 h2⟩
  · rw [if_neg h1]; exact ⟨fun h => absurd h (by decide), fun h => absurd h.1 h1⟩
theorem chk_bd (e : Int) (xs : List Int) : 0 ≤ chk e xs ∧ chk e xs ≤ 162 := by
  unfold chk; split <;> (try split) <;> (try split) <;> omega
/-- The node in a place. -/
def atC (e : Int) (xs : List Int) (i : Int) : Int := if chk e xs = 0 ∧ 0 ≤ i ∧ i < xs.length then xs[i.toNat]?.getD 0 else 0
/-- The node so far behind another one. -/
def bes (e : Int) (xs : List Int) (n far : Int) : Int := if pla xs n < 0 then 0 else atC e xs (pla xs n + far)
def rol (e : Int) (xs : List Int) (n : Int) : Int := if chk e xs ≠ 0 ∨ pla xs n < 0 then 0 else if xs.length = 1 then 4 else if pla xs n = 0 then 1 else if pla xs n = xs.length - 1 then 3 else 2
def woE (e : Int) (xs : List Int) (n : Int) : Int := if chk e xs ≠ 0 then chk e xs else if pla xs n < 0 then 161 else if xs.length = 1 then 162 else if e = 1099511627776 then 160 else 0
def woX (e : Int) (xs : List Int) (n : Int) : List Int := if woE e xs n = 0 then xs.take (pla xs n).toNat ++ xs.drop ((pla xs n).toNat + 1) else []
def woP (e : Int) (xs : List Int) (n : Int) : Int := if woE e xs n = 0 then e + 1 else 0
def wiE (e : Int) (xs : List Int) (n : Int) : Int := if chk e xs ≠ 0 then chk e xs else if ¬ (1 ≤ n ∧ n ≤ 8) ∨ n ∈ xs then 161 else if e = 1099511627776 then 160 else 0
def wiX (e : Int) (xs : List Int) (n : Int) : List Int := if wiE e xs n = 0 then xs ++ [n] else []
def wiP (e : Int) (xs : List Int) (n : Int) : Int := if wiE e xs n = 0 then e + 1 else 0
end Go.Proofs.Ytekefbbjocekiab
