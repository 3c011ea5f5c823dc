/-
  What comes with and without a node: it may be, it follows, what was does not follow it, the order of the nodes stays, and back. No condition.
-/
import Derived.Test.YtekefbbjocekiabCHo
namespace Go.Proofs.Ytekefbbjocekiab
open Go.RowKit
set_option linter.unusedVariables false

theorem wo_facts {e : Int} {xs : List Int} {x : Int} (h : woE e xs x = 0) : chk e xs = 0 ∧ x ∈ xs ∧ xs.length ≠ 1 ∧ e ≠ 1099511627776 := by
  unfold woE at h
  by_cases h1 : chk e xs ≠ 0
  · rw [if_pos h1] at h; exact absurd h h1
  · rw [if_neg h1] at h
    by_cases h2 : pla xs x < 0
    · rw [if_pos h2] at h; exact absurd h (by decide)
    · rw [if_neg h2] at h
      by_cases h3 : xs.length = 1
      · rw [if_pos h3] at h; exact absurd h (by decide)
      · rw [if_neg h3] at h
        by_cases h4 : e = 1099511627776
        · rw [if_pos h4] at h; exact absurd h (by decide)
        · exact ⟨Decidable.not_not.1 h1, Decidable.not_not.1 (fun z => h2 (pla_neg.2 z)), h3, h4⟩
theorem wi_facts {e : Int} {xs : List Int} {x : Int} (h : wiE e xs x = 0) : chk e xs = 0 ∧ (1 ≤ x ∧ x ≤ 8) ∧ x ∉ xs ∧ e ≠ 1099511627776 := by
  unfold wiE at h
  by_cases h1 : chk e xs ≠ 0
  · rw [if_pos h1] at h; exact absurd h h1
  · rw [if_neg h1] at h
    by_cases h2 : ¬ (1 ≤ x ∧ x ≤ 8) ∨ x ∈ xs
    · rw [if_pos h2] at h; exact absurd h (by decide)
    · rw [if_neg h2] at h
      by_cases h4 : e = 1099511627776
      · rw [if_pos h4] at h; exact absurd h (by decide)
      · exact ⟨Decidable.not_not.1 h1, Decidable.not_not.1 (fun z => h2 (.inl z)), (fun z => h2 (.inr z)), h4⟩
theorem goodN_sub {xs ys : List Int} (h : GoodN xs) (hs : ys.Sublist xs) : GoodN ys := ⟨fun y hy => h.1 y (hs.subset hy), h.2.sublist hs⟩
theorem woX_erase {e : Int} {xs : List Int} {x : Int} (h : woE e xs x = 0) : woX e xs x = xs.eraseIdx (pla xs x).toNat := by
  unfold woX
  rw [if_pos h, List.eraseIdx_eq_take_drop_succ]
theorem pla_zero (xs : List Int) {n : Int} (h : n ∈ xs) : ∃ j, pla xs n = (j : Nat) ∧ xs[j]? = some n := by
  refine ⟨xs.idxOf n, pla_yes h, ?_⟩
  rw [List.getElem?_eq_getElem (List.idxOf_lt_length_of_mem h), List.getElem_idxOf]
theorem woX_len1 {e : Int} {xs : List Int} {x : Int} (h : woE e xs x = 0) : (woX e xs x).length + 1 = xs.length := by
  obtain ⟨j, h1, h2⟩ := pla_zero xs (wo_facts h).2.1
  have := (List.getElem?_eq_some_iff.1 h2).1
  rw [woX_erase h, h1, List.length_eraseIdx, if_pos (by omega)]
  omega
theorem ordd_sub {zs bs : List Int} (hz : zs.Nodup) (hs : bs.Sublist zs) (hb : bs ≠ []) : Ordd zs bs := by
  have hbn := hz.sublist hs
  have hp : zs.Pairwise (fun a b => pla zs a < pla zs b) := by
    rw [List.pairwise_iff_getElem]
    intro i j hi hj hij
    rw [(pla_nodup hz (List.getElem?_eq_getElem hi)).2, (pla_nodup hz (List.getElem?_eq_getElem hj)).2]
    omega
  have hq := List.pairwise_iff_getElem.1 (hp.sublist hs)
  refine ⟨hbn, ?_, ?_⟩
  · intro i j x y hij hx hy hxb hyb
    obtain ⟨p, p1, p2⟩ := pla_zero bs hxb
    obtain ⟨q, q1, q2⟩ := pla_zero bs hyb
    rcases Nat.lt_or_ge q p with hlt | hge
    · obtain ⟨hq', eq⟩ := List.getElem?_eq_some_iff.1 q2
      obtain ⟨hp', ep⟩ := List.getElem?_eq_some_iff.1 p2
      have z := hq q p hq' hp' hlt
      rw [eq, ep, (pla_nodup hz hx).2, (pla_nodup hz hy).2] at z
      omega
    · omega
  · obtain ⟨x, l, rfl⟩ := List.exists_cons_of_ne_nil hb
    have hm : x ∈ zs := hs.subset (by simp)
    obtain ⟨i, _, h2⟩ := pla_zero zs hm
    exact ⟨i, x, h2, by simp⟩
theorem ordd_snoc {zs : List Int} {x : Int} (hz : (zs ++ [x]).Nodup) (hx : x ∉ zs) (hb : zs ≠ []) : Ordd zs (zs ++ [x]) := by
  have hzn : zs.Nodup := hz.sublist (List.sublist_append_left zs [x])
  have hne : ∀ a : Int, a ∈ zs → pla (zs ++ [x]) a = pla zs a := by
    intro a ha
    rw [pla_app _ _ _ hx, if_neg (by intro z; rw [z] at ha; exact hx ha)]
  refine ⟨hz, ?_, ?_⟩
  · intro i j a b hij ha hbj _ _
    rw [hne a (List.mem_of_getElem? ha), hne b (List.mem_of_getElem? hbj), (pla_nodup hzn ha).2, (pla_nodup hzn hbj).2]
    omega
  · obtain ⟨y, l, rfl⟩ := List.exists_cons_of_ne_nil hb
    exact ⟨0, y, rfl, by simp⟩
theorem fol_back {e : Int} {xs ys : List Int} : fol (e + 1) e ys xs = false := by
  refine fol_no fun k hk => ?_
  unfold stepF
  have h1 : (woE (e + 1) ys ((k : Int) + 1) == 0 && sam (woP (e + 1) ys ((k : Int) + 1)) e (woX (e + 1) ys ((k : Int) + 1)) xs) = false := by
    by_cases h : woE (e + 1) ys ((k : Int) + 1) = 0
    · rw [Bool.and_eq_false_iff]
      right
      unfold sam
      exact decide_eq_false (fun z => by have := z.1; unfold woP at this; rw [if_pos h] at this; omega)
    · rw [beq_false_of_ne h, Bool.false_and]
  have h2 : (wiE (e + 1) ys ((k : Int) + 1) == 0 && sam (wiP (e + 1) ys ((k : Int) + 1)) e (wiX (e + 1) ys ((k : Int) + 1)) xs) = false := by
    by_cases h : wiE (e + 1) ys ((k : Int) + 1) = 0
    · rw [Bool.and_eq_false_iff]
      right
      unfold sam
      exact decide_eq_false (fun z => by have := z.1; unfold wiP at this; rw [if_pos h] at this; omega)
    · rw [beq_false_of_ne h, Bool.false_and]
  rw [h1, h2]
  rfl
/-- What is known of the next configuration. -/
structure NextC (e : Int) (xs ys : List Int) : Prop where
  ck : chk (e + 1) ys = 0
  fo : fol e (e + 1) xs ys = true
  fb : fol (e + 1) e ys xs = false
  od : Ordd xs ys
theorem next_wo {e : Int} {xs : List Int} {x : Int} (h : woE e xs x = 0) : NextC e xs (woX e xs x) ∧ woP e xs x = e + 1 ∧ (woX e xs x).length ≤ xs.length := by
  obtain ⟨h1, h2, h3, h4⟩ := wo_facts h
  obtain ⟨k1, k2, k3⟩ := chk_ok.1 h1
  have hl := woX_len1 h
  have hs : (woX e xs x).Sublist xs := by rw [woX_erase h]; exact List.eraseIdx_sublist _ _
  have hp : woP e xs x = e + 1 := by unfold woP; rw [if_pos h]
  have hx := k3.1 x h2
  refine ⟨⟨chk_ok.2 ⟨by omega, by omega, goodN_sub k3 hs⟩, ?_, fol_back, ordd_sub k3.2 hs (fun z => by rw [z] at hl; simp at hl; omega)⟩, hp, by omega⟩
  refine fol_yes (k := (x - 1).toNat) (by omega) ?_
  rw [show (((x - 1).toNat : Nat) : Int) + 1 = x by omega]
  unfold stepF
  rw [h, hp, sam_refl]
  rfl
theorem next_wi {e : Int} {xs : List Int} {x : Int} (h : wiE e xs x = 0) : NextC e xs (wiX e xs x) ∧ wiP e xs x = e + 1 ∧ xs.length < (wiX e xs x).length ∧ (e + 1 ≠ 1099511627776 → woE (e + 1) (wiX e xs x) x = 0 ∧ woX (e + 1) (wiX e xs x) x = xs) := by
  obtain ⟨h1, h2, h3, h4⟩ := wi_facts h
  obtain ⟨k1, k2, k3⟩ := chk_ok.1 h1
  have hX : wiX e xs x = xs ++ [x] := by unfold wiX; rw [if_pos h]
  have hp : wiP e xs x = e + 1 := by unfold wiP; rw [if_pos h]
  have hg : GoodN (xs ++ [x]) := k3.snoc h2.1 h2.2 h3
  have hgl := hg.len
  have hll : (xs ++ [x]).length = xs.length + 1 := by simp
  have hck : chk (e + 1) (xs ++ [x]) = 0 := chk_ok.2 ⟨by omega, by omega, hg⟩
  have hpl : pla (xs ++ [x]) x = (xs.length : Int) := by rw [pla_app _ _ _ h3, if_pos rfl]
  rw [hX]
  refine ⟨⟨hck, ?_, fol_back, ordd_snoc hg.2 h3 (fun z => by rw [z] at k2; simp at k2)⟩, hp, by omega, fun h5 => ?_⟩
  · refine fol_yes (k := (x - 1).toNat) (by omega) ?_
    rw [show (((x - 1).toNat : Nat) : Int) + 1 = x by omega]
    unfold stepF
    rw [h, hp, hX, sam_refl]
    simp
  · have hw : woE (e + 1) (xs ++ [x]) x = 0 := woE_0 hck (by omega) (by omega) h5
    refine ⟨hw, ?_⟩
    unfold woX
    rw [if_pos hw, hpl]
    simp
end Go.Proofs.Ytekefbbjocekiab
