/-
  What span's rising answers: the edges of both lists' ranges that have something, rising by their texts. Condition: both lists together have at most 2^40 ranges.
-/
import Derived.Test.YtdjcokepeifojaaNEd
import Derived.Test.YtdjcokepeifojaaNHp
namespace Go.Proofs.Ytdjcokepeifojaa
set_option linter.unusedVariables false
open Go.RowKit

def rC (r : Rg) : List Value := [.string r.1, .string r.2]
def flR (A : List Rg) : List Value := A.flatMap rC
theorem flR_len (A : List Rg) : (flR A).length = A.length * 2 := by
  induction A with
  | nil => rfl
  | cons e E ih => simp only [flR, List.flatMap_cons, List.length_append, List.length_cons] at ih ⊢; rw [ih]; simp only [rC, List.length_cons, List.length_nil]; omega
theorem flR_app (A B : List Rg) : flR (A ++ B) = flR A ++ flR B := by simp [flR]
theorem flR_at : ∀ (E : List Rg) (i c : Nat), i < E.length → c < 2 → (flR E)[i * 2 + c]? = (rC (E.getD i (.empty, .empty)))[c]?
  | [], i, c, h, _ => by simp at h
  | e :: E, 0, c, h, hc => by
    simp only [flR, List.flatMap_cons, Nat.zero_mul, Nat.zero_add, List.getD_cons_zero]
    rw [List.getElem?_append_left (by simpa [rC] using hc)]
  | e :: E, i + 1, c, h, hc => by
    have := flR_at E i c (by simpa using h) hc
    simp only [flR, List.flatMap_cons, List.getD_cons_succ] at this ⊢
    rw [List.getElem?_append_right (by simp [rC]; omega), ← this]
    congr 1
    simp [rC]; omega
theorem flR_one (E : List Rg) : ∀ u ∈ flR E, u.oneCell' = true := fun u hu => by
  obtain ⟨e, _, h⟩ := List.mem_flatMap.1 hu
  simp only [rC, List.mem_cons, List.not_mem_nil, or_false] at h
  rcases h with rfl | rfl <;> rfl
/-- What a row of ranges reads at a place. -/
theorem cells_rg {w : World} {a : Option Addr} {A : List Rg} (h : Cells w a (flR A)) (i : Nat) (hi : i < A.length) : ∃ b off, a = some ⟨b, off, none⟩ ∧ b < w.heap.size ∧ w.cell? ⟨b, off + i * 2, none⟩ = some (.string (A.getD i (.empty, .empty)).1) ∧ w.cell? ⟨b, off + i * 2 + 1, none⟩ = some (.string (A.getD i (.empty, .empty)).2) := by
  rcases h with h | ⟨b, off, ha, hb, hc⟩
  · have e : (flR A).length = 0 := by rw [h]; rfl
    rw [flR_len] at e; omega
  · exact ⟨b, off, ha, hb, hc (i * 2) _ (by have := flR_at A i 0 hi (by omega); rw [Nat.add_zero] at this; rw [this]; rfl), by rw [Nat.add_assoc]; exact hc (i * 2 + 1) _ (by rw [flR_at A i 1 hi (by omega)]; rfl)⟩
/-- The edges of a range. -/
def eds (k : Int) (r : Rg) : List Ed := if rEmpty r = true then [] else (r.1, k, 1) :: if r.2 = .empty then [] else [(r.2, k, -1)]
def edsL (k : Int) (A : List Rg) : List Ed := A.flatMap (eds k)
theorem edsL_snoc (k : Int) (A : List Rg) (i : Nat) (h : i < A.length) : edsL k (A.take (i + 1)) = edsL k (A.take i) ++ eds k (A.getD i (.empty, .empty)) := by
  rw [List.take_succ_eq_append_getElem h, edsL, List.flatMap_append]
  have e : A.getD i (.empty, .empty) = A[i] := by simp [h]
  rw [e]
  simp [edsL]
theorem eds_len (k : Int) (r : Rg) : (eds k r).length ≤ 2 := by
  unfold eds
  by_cases h : rEmpty r = true
  · rw [if_pos h]; simp
  · rw [if_neg h]
    by_cases h2 : r.2 = .empty
    · rw [if_pos h2]; simp
    · rw [if_neg h2]; simp
theorem edsL_len (k : Int) (A : List Rg) : (edsL k A).length ≤ 2 * A.length := by
  induction A with
  | nil => simp [edsL]
  | cons r A ih =>
    simp only [edsL, List.flatMap_cons, List.length_append, List.length_cons] at ih ⊢
    have : (eds k r).length ≤ 2 := eds_len k r
    omega
theorem infoEdge : (Try.prog.info? 67).map (fun i => (i.zero, i.size, i.bytes)) = some (some (.agg #[.string .empty, .int .i64 0, .int .i64 0]), 3, 32) := by kernel_rfl
/-- The edges so far, and the two lists in their row. -/
def RQ (w wr : World) (T : Nat) (cs : Array Value) (v : Value) (E : List Ed) : Prop :=
  ∃ g cap, v = .slice (some ⟨g, 0, none⟩) E.length cap ∧ wr.ownsRow w.heap.size 67 3 v E.length (flE E) ∧ g ≠ T ∧ g < wr.heap.size ∧ Bk 24 wr T cs ∧ w.grownBy wr none
theorem RQ.gb {w wr wr' : World} {T : Nat} {cs : Array Value} {v : Value} {E : List Ed} (h : RQ w wr T cs v E) (hg : wr.grownBy wr' none) : RQ w wr' T cs v E := by
  obtain ⟨g, cap, rfl, h1, h2, h3, h4, h5⟩ := h
  exact ⟨g, cap, rfl, own_gb h1 hg, h2, Nat.lt_of_lt_of_le h3 hg.size, h4.grew hg (by simp), gb_trans h5 hg⟩
theorem RQ.app {w w3 w4 : World} {T g cap g4 cap4 : Nat} {cs : Array Value} {E : List Ed} {e : Ed} (h : RQ w w3 T cs (.slice (some ⟨g, 0, none⟩) E.length cap) E)
    (ho : w4.ownsRow w.heap.size 67 3 (.slice (some ⟨g4, 0, none⟩) (E.length + 1) cap4) (E.length + 1) (flE E ++ (eE e).toArray.toList)) (hB : Below w.heap.size w3 w4) (hb : w3.grownBy w4 (some g)) (hl : (some g : Option Nat) = some g4 ∨ w3.heap.size ≤ g4) (hg : g4 < w4.heap.size) :
    RQ w w4 T cs (.slice (some ⟨g4, 0, none⟩) (E.length + 1) cap4) (E ++ [e]) := by
  obtain ⟨g', cap', h0, h1, h2, h3, h4, h5⟩ := h
  simp only [Value.slice.injEq, Option.some.injEq, Addr.mk.injEq, and_true, true_and] at h0
  obtain ⟨rfl, rfl⟩ := h0
  refine ⟨g4, cap4, by simp, ?_, ?_, hg, h4.grew hb (fun e => h2 (Option.some.inj e)), below_gb ((gb_below h5).trans hB)⟩
  · have e : (E ++ [e]).length = E.length + 1 := by simp
    rw [e, flE_app]
    simpa [flE] using ho
  · rcases hl with hl | hl
    · cases hl; exact h2
    · have := lt_of_block h4; omega
theorem edge_one (e : Ed) : ∀ u ∈ (eE e).toArray.toList, u.oneCell' = true := fun u hu => by
  simp only [eE, List.mem_cons, List.not_mem_nil, or_false] at hu
  rcases hu with rfl | rfl | rfl <;> rfl
theorem eds_yes {k : Int} {f u : ByteArray} (h : rEmpty (f, u) = true) : eds k (f, u) = [] := by unfold eds; rw [if_pos h]
theorem eds_no1 {k : Int} {f u : ByteArray} (h : rEmpty (f, u) = false) (hu : u.toList = []) : eds k (f, u) = [(f, k, 1)] := by unfold eds; rw [if_neg (by rw [h]; simp), if_pos ((nil_iff u).1 hu)]
theorem eds_no2 {k : Int} {f u : ByteArray} (h : rEmpty (f, u) = false) (hu : ¬ u.toList = []) : eds k (f, u) = [(f, k, 1), (u, k, -1)] := by unfold eds; rw [if_neg (by rw [h]; simp), if_neg (fun e => hu ((nil_iff u).2 e))]
theorem own_lt {w : World} {B : Nat} {e : TypeId} {size g n cap : Nat} {xs : List Value} (h : w.ownsRow B e size (.slice (some ⟨g, 0, none⟩) n cap) n xs) : g < w.heap.size := by
  rcases h.2 with ⟨h0, _⟩ | ⟨g', cap', cur, h0, hB, hg, _⟩
  · cases h0
  · cases h0; exact lt_of_block hg
theorem bk_of {w wr : World} {T : Nat} {cs : Array Value} {v : Value} {E : List Ed} (h : RQ w wr T cs v E) (i : Nat) : wr.cell? ⟨T, i, none⟩ = cs[i]? := by
  obtain ⟨_, _, _, _, _, _, h, _⟩ := h
  exact h.cell i
theorem gb_of {w wr : World} {T : Nat} {cs : Array Value} {v : Value} {E : List Ed} (h : RQ w wr T cs v E) : w.grownBy wr none := by
  obtain ⟨_, _, _, _, _, _, _, h⟩ := h
  exact h
theorem app_of {w w3 w4 : World} {T g cap g4 cap4 m : Nat} {cs : Array Value} {E : List Ed} {e : Ed} (hm : m = E.length) (h : RQ w w3 T cs (.slice (some ⟨g, 0, none⟩) m cap) E)
    (ho : w4.ownsRow w.heap.size 67 3 (.slice (some ⟨g4, 0, none⟩) (m + 1) cap4) (m + 1) (flE E ++ (eE e).toArray.toList)) (hB : Below w.heap.size w3 w4) (hb : w3.grownBy w4 (some g)) (hl : (some g : Option Nat) = some g4 ∨ w3.heap.size ≤ g4) (hg : g4 < w4.heap.size) :
    RQ w w4 T cs (.slice (some ⟨g4, 0, none⟩) (m + 1) cap4) (E ++ [e]) := by
  subst hm; exact h.app ho hB hb hl hg
theorem own_of {w wr : World} {T m : Nat} {cs : Array Value} {v : Value} {E : List Ed} {e : Ed} (hm : m = E.length) (h : RQ w wr T cs v (E ++ [e])) : wr.ownsRow w.heap.size 67 3 v (m + 1) (flE (E ++ [e])) := by
  subst hm
  obtain ⟨_, _, _, h, _⟩ := h
  have e : (E ++ [e]).length = E.length + 1 := by simp
  rw [e] at h; exact h
set_option maxRecDepth 20000 in
set_option maxHeartbeats 1000000 in
theorem rising_c (A B : List Rg) (a b : Option Addr) (ca cb : Nat) (w : World) (hA : Cells w a (flR A)) (hB : Cells w b (flR B)) (hn : A.length + B.length ≤ 1099511627776) :
    Calls Try.prog 32 #[.slice a A.length ca, .slice b B.length cb] w fun e w' => ∃ g cap E, e = .returned (.slice (some ⟨g, 0, none⟩) E.length cap) ∧ (edsL 0 A ++ edsL 1 B).Perm E ∧ Srt E ∧ Cells w' (some ⟨g, 0, none⟩) (flE E) ∧ E.length ≤ 2 * (A.length + B.length) ∧ w.grownBy w' none := by
  obtain ⟨i0, hi0, hz0, hs0, hy0⟩ := info_parts' infoEdge
  have HA : Hid (Cells w a (flR A)) := hA
  have HB : Hid (Cells w b (flR B)) := hB
  obtain ⟨na, hna⟩ : ∃ na, na = A.length := ⟨_, rfl⟩
  obtain ⟨nb, hnb⟩ : ∃ nb, nb = B.length := ⟨_, rfl⟩
  rw [← hna, ← hnb] at hn ⊢
  have HNA : Hid (na = A.length) := hna
  have HNB : Hid (nb = B.length) := hnb
  clear hA hB hna hnb
  go_enter Try.func32, Try.ntmps32
  go_wp2_with (first
    | (at_make; go_must (refine wpList_make_own _ rfl _ _ 63 rfl w.heap.size 67 i0 (.agg #[.string .empty, .int .i64 0, .int .i64 0]) 3 Try.underlying63 hi0 hz0 hs0 _ _ _ (2 * (na + nb)) rfl rfl (by omega) (by rw [hy0]; omega) (by unfold maxLen; omega) (Nat.le_refl _) ?_); intro w1 hown hgrow; have H1 : Hid (w1.ownsRow w.heap.size 67 3 (.slice (some ⟨w.heap.size, 0, none⟩) 0 (2 * (na + nb))) 0 [] ∧ w.grownBy w1 none) := ⟨hown, hgrow⟩; clear hown hgrow))
  have H2 : Hid (RQ w (w1.alloc (.cells #[.slice a na ca, .slice b nb cb] 24)) w1.heap.size #[.slice a na ca, .slice b nb cb] (.slice (some ⟨w.heap.size, 0, none⟩) 0 (2 * (na + nb))) []) := ⟨w.heap.size, _, rfl, own_gb H1.out.1 (gb_alloc _ _), Nat.ne_of_lt (own_lt H1.out.1), Nat.lt_of_lt_of_le (own_lt H1.out.1) (gb_alloc _ _).size, heap_new w1 _, gb_trans H1.out.2 (gb_alloc _ _)⟩
  generalize hW2 : w1.alloc _ = W2 at *
  clear hW2
  go_loopw [5, 21] (fun v i wr => (i = .int .i64 0 ∧ Hid (RQ w wr w1.heap.size #[.slice a na ca, .slice b nb cb] v [])) ∨ (i = .int .i64 1 ∧ Hid (RQ w wr w1.heap.size #[.slice a na ca, .slice b nb cb] v (edsL 0 A))) ∨ (i = .int .i64 2 ∧ Hid (RQ w wr w1.heap.size #[.slice a na ca, .slice b nb cb] v (edsL 0 A ++ edsL 1 B)))) (fun _ i _ => 2 - (intOf i).toNat)
  case atStart => exact .inl ⟨rfl, H2⟩
  case round =>
    rcases hrel with ⟨rfl, HR⟩ | ⟨rfl, HR⟩ | ⟨rfl, HR⟩
    · have hT := HR.out
      have hc := bk_of hT 0
      go_wp2
      clear hc hT
      go_loopw [5, 28] (fun v i wr => ∃ k : Nat, k ≤ na ∧ i = .int .i64 k ∧ Hid (RQ w wr w1.heap.size #[.slice a na ca, .slice b nb cb] v (edsL 0 (A.take k)))) (fun _ i _ => na - (intOf i).toNat)
      case atStart => exact ⟨0, Nat.zero_le _, rfl, HR⟩
      case round =>
        obtain ⟨k, hk, rfl, hr⟩ := hrel
        clear HR
        by_cases hlt : k < na
        · obtain ⟨ba, oa, hab, hba, c0, c1⟩ := cells_rg HA.out k (by have := HNA.out; omega)
          have HES : Hid _ := edsL_snoc 0 A k (by have := HNA.out; omega)
          have HEM : Hid ((edsL 0 (A.take k)).length ≤ 2 * (na + nb)) := (Nat.le_trans (edsL_len 0 (A.take k)) (by have := HNA.out; rw [List.length_take]; omega))
          generalize A.getD k (.empty, .empty) = r at *
          obtain ⟨f, u⟩ := r
          obtain ⟨g, cap, rfl, ho, hgT, hgl, hbk, hgw⟩ := hr.out
          have c0r : wr.cell? ⟨ba, oa + k * 2, none⟩ = some (.string f) := ((gb_below hgw).cell (p := ⟨ba, oa + k * 2, none⟩) hba).trans c0
          have c1r : wr.cell? ⟨ba, oa + k * 2 + 1, none⟩ = some (.string u) := ((gb_below hgw).cell (p := ⟨ba, oa + k * 2 + 1, none⟩) hba).trans c1
          have i1 : (0 : Int) ≤ (k : Int) := by omega
          have i2 : (k : Int) < (na : Int) := by omega
          have HN9 : Hid _ := blk_new wr 39 #[.string f, .string u]
          have HEY : Hid _ := fun w => empty_c (f, u) w
          have HAB : Hid _ := hab
          obtain ⟨m, hm⟩ : ∃ m, m = (edsL 0 (A.take k)).length := ⟨_, rfl⟩
          have HM : Hid (m = (edsL 0 (A.take k)).length) := hm
          rw [← hm] at HEM ho hr ⊢
          have hem := HEM.out
          have HO : Hid _ := ho
          have HGL : Hid _ := hgl
          rw [hab]
          clear c0 c1 hm ho hgT hgl hbk hgw hab
          cases hE : rEmpty (f, u)
          · rw [hE] at HEY
            by_cases hu : u.toList = []
            · have HED : Hid (edsL 0 (A.take (k + 1)) = (edsL 0 (A.take k)) ++ [(f, 0, 1)]) := by show _ = _; rw [HES.out, eds_no1 hE hu]
              clear HES hE
              go_wp2_with (first
                | (go_at_call 45; go_must (refine (HEY.out _).mono ?_); rintro e w3 ⟨rfl, h3⟩; have H3 : Hid (Bk 39 w3 wr.heap.size #[.string f, .string u] ∧ wr.grownBy w3 none) := ⟨HN9.out.1.grew h3 (by simp), gb_trans HN9.out.2 h3⟩; clear h3; have d0 := H3.out.1.cell 0; have d1 := H3.out.1.cell 1; simp only [List.getElem?_toArray, List.getElem?_cons_zero, List.getElem?_cons_succ] at d0 d1)
                | ((fail_if_success (have z := H4)); at_builtin; go_must (refine wpList_lit rfl _ _ 63 rfl w.heap.size 67 _ 3 32 Try.underlying63 infoEdge rfl (by decide) w3 (eE (f, 0, 1)).toArray rfl _ m (flE (edsL 0 (A.take k))) rfl (own_gb HO.out H3.out.2) rfl rfl (edge_one _) (by unfold maxLen; omega) (by omega) (Nat.le_trans (gb_of hr.out).size H3.out.2.size) ?_); intro g4 cap4 w4 ho4 hb4 hg4 hl4 ht4; have H4 : Hid (RQ w w4 w1.heap.size #[.slice a na ca, .slice b nb cb] (.slice (some ⟨g4, 0, none⟩) (m + 1) cap4) ((edsL 0 (A.take k)) ++ [(f, 0, 1)])) := app_of HM.out (hr.out.gb H3.out.2) ho4 hb4 hg4 hl4 ht4; have d2 : w4.cell? ⟨wr.heap.size, 1, none⟩ = some (.string u) := (hg4.cell_far ⟨wr.heap.size, 1, none⟩ (lt_of_block H3.out.1) (fun e => by have e1 := Option.some.inj e; have e2 := HGL.out; simp only at e1; omega)).trans d1; clear ho4 hb4 hg4 hl4 ht4))
              rw [← HAB.out]
              go_roundw
              case rel => exact ⟨k + 1, by omega, by simp, by rw [HED.out]; exact H4⟩
              case measure => simp [intOf]; omega
            · have HED : Hid (edsL 0 (A.take (k + 1)) = ((edsL 0 (A.take k)) ++ [(f, 0, 1)]) ++ [(u, 0, -1)]) := by show _ = _; rw [HES.out, eds_no2 hE hu]; simp
              have hu' := ne_nil hu
              clear HES hE
              go_wp2_with (first
                | (go_at_call 45; go_must (refine (HEY.out _).mono ?_); rintro e w3 ⟨rfl, h3⟩; have H3 : Hid (Bk 39 w3 wr.heap.size #[.string f, .string u] ∧ wr.grownBy w3 none) := ⟨HN9.out.1.grew h3 (by simp), gb_trans HN9.out.2 h3⟩; clear h3; have d0 := H3.out.1.cell 0; have d1 := H3.out.1.cell 1; simp only [List.getElem?_toArray, List.getElem?_cons_zero, List.getElem?_cons_succ] at d0 d1)
                | ((fail_if_success (have z := H4)); at_builtin; go_must (refine wpList_lit rfl _ _ 63 rfl w.heap.size 67 _ 3 32 Try.underlying63 infoEdge rfl (by decide) w3 (eE (f, 0, 1)).toArray rfl _ m (flE (edsL 0 (A.take k))) rfl (own_gb HO.out H3.out.2) rfl rfl (edge_one _) (by unfold maxLen; omega) (by omega) (Nat.le_trans (gb_of hr.out).size H3.out.2.size) ?_); intro g4 cap4 w4 ho4 hb4 hg4 hl4 ht4; have H4 : Hid (RQ w w4 w1.heap.size #[.slice a na ca, .slice b nb cb] (.slice (some ⟨g4, 0, none⟩) (m + 1) cap4) ((edsL 0 (A.take k)) ++ [(f, 0, 1)])) := app_of HM.out (hr.out.gb H3.out.2) ho4 hb4 hg4 hl4 ht4; have d2 : w4.cell? ⟨wr.heap.size, 1, none⟩ = some (.string u) := (hg4.cell_far ⟨wr.heap.size, 1, none⟩ (lt_of_block H3.out.1) (fun e => by have e1 := Option.some.inj e; have e2 := HGL.out; simp only at e1; omega)).trans d1; clear ho4 hb4 hg4 hl4 ht4)
                | (have z := H4; clear z; at_builtin; go_must (refine wpList_lit rfl _ _ 63 rfl w.heap.size 67 _ 3 32 Try.underlying63 infoEdge rfl (by decide) w4 (eE (u, 0, -1)).toArray rfl _ (m + 1) (flE ((edsL 0 (A.take k)) ++ [(f, 0, 1)])) rfl (own_of HM.out H4.out) rfl rfl (edge_one _) (by unfold maxLen; omega) (by omega) (gb_of H4.out).size ?_); intro g5 cap5 w5 ho5 hb5 hg5 hl5 ht5; have H5 : Hid (RQ w w5 w1.heap.size #[.slice a na ca, .slice b nb cb] (.slice (some ⟨g5, 0, none⟩) (m + 1 + 1) cap5) (((edsL 0 (A.take k)) ++ [(f, 0, 1)]) ++ [(u, 0, -1)])) := app_of (by rw [List.length_append, HM.out]; rfl) H4.out ho5 hb5 hg5 hl5 ht5; clear ho5 hb5 hg5 hl5 ht5))
              rw [← HAB.out]
              go_roundw
              case rel => exact ⟨k + 1, by omega, by simp, by rw [HED.out]; exact H5⟩
              case measure => simp [intOf]; omega
          · rw [hE] at HEY
            have HED : Hid (edsL 0 (A.take (k + 1)) = (edsL 0 (A.take k))) := by show _ = _; rw [HES.out, eds_yes hE]; simp
            clear HES hE
            go_wp2_with (first
              | (go_at_call 45; go_must (refine (HEY.out _).mono ?_); rintro e w3 ⟨rfl, h3⟩; have H3 : Hid (Bk 39 w3 wr.heap.size #[.string f, .string u] ∧ wr.grownBy w3 none) := ⟨HN9.out.1.grew h3 (by simp), gb_trans HN9.out.2 h3⟩; clear h3; have d0 := H3.out.1.cell 0; have d1 := H3.out.1.cell 1; simp only [List.getElem?_toArray, List.getElem?_cons_zero, List.getElem?_cons_succ] at d0 d1))
            rw [← HAB.out]
            go_roundw
            case rel => exact ⟨k + 1, by omega, by simp, by rw [HED.out]; exact hr.out.gb H3.out.2⟩
            case measure => simp [intOf]; omega
        · obtain rfl : k = na := by omega
          have HF : Hid (edsL 0 (A.take k) = edsL 0 A) := by show _ = _; rw [List.take_of_length_le (by have := HNA.out; omega)]
          rw [HF.out] at hr
          go_wp2
          go_roundw
          case rel => exact .inr (.inl ⟨rfl, hr⟩)
          case measure => simp [intOf]
    · have hT := HR.out
      have hc := bk_of hT 1
      go_wp2
      clear hc hT
      go_loopw [5, 28] (fun v i wr => ∃ k : Nat, k ≤ nb ∧ i = .int .i64 k ∧ Hid (RQ w wr w1.heap.size #[.slice a na ca, .slice b nb cb] v (edsL 0 A ++ edsL 1 (B.take k)))) (fun _ i _ => nb - (intOf i).toNat)
      case atStart => exact ⟨0, Nat.zero_le _, rfl, by rw [List.take_zero]; show Hid (RQ _ _ _ _ _ (edsL 0 A ++ [])); rw [List.append_nil]; exact HR⟩
      case round =>
        obtain ⟨k, hk, rfl, hr⟩ := hrel
        clear HR
        by_cases hlt : k < nb
        · obtain ⟨ba, oa, hab, hba, c0, c1⟩ := cells_rg HB.out k (by have := HNB.out; omega)
          have HES : Hid _ := edsL_snoc 1 B k (by have := HNB.out; omega)
          have HEM : Hid ((edsL 0 A ++ edsL 1 (B.take k)).length ≤ 2 * (na + nb)) := (by show _ ≤ _; have h1 := edsL_len 0 A; have h2 := edsL_len 1 (B.take k); have h3 := HNA.out; have h4 := HNB.out; rw [List.length_append]; rw [List.length_take] at h2; omega)
          generalize B.getD k (.empty, .empty) = r at *
          obtain ⟨f, u⟩ := r
          obtain ⟨g, cap, rfl, ho, hgT, hgl, hbk, hgw⟩ := hr.out
          have c0r : wr.cell? ⟨ba, oa + k * 2, none⟩ = some (.string f) := ((gb_below hgw).cell (p := ⟨ba, oa + k * 2, none⟩) hba).trans c0
          have c1r : wr.cell? ⟨ba, oa + k * 2 + 1, none⟩ = some (.string u) := ((gb_below hgw).cell (p := ⟨ba, oa + k * 2 + 1, none⟩) hba).trans c1
          have i1 : (0 : Int) ≤ (k : Int) := by omega
          have i2 : (k : Int) < (nb : Int) := by omega
          have HN9 : Hid _ := blk_new wr 39 #[.string f, .string u]
          have HEY : Hid _ := fun w => empty_c (f, u) w
          have HAB : Hid _ := hab
          obtain ⟨m, hm⟩ : ∃ m, m = (edsL 0 A ++ edsL 1 (B.take k)).length := ⟨_, rfl⟩
          have HM : Hid (m = (edsL 0 A ++ edsL 1 (B.take k)).length) := hm
          rw [← hm] at HEM ho hr ⊢
          have hem := HEM.out
          have HO : Hid _ := ho
          have HGL : Hid _ := hgl
          rw [hab]
          clear c0 c1 hm ho hgT hgl hbk hgw hab
          cases hE : rEmpty (f, u)
          · rw [hE] at HEY
            by_cases hu : u.toList = []
            · have HED : Hid (edsL 0 A ++ edsL 1 (B.take (k + 1)) = (edsL 0 A ++ edsL 1 (B.take k)) ++ [(f, 1, 1)]) := by show _ = _; rw [HES.out, eds_no1 hE hu, List.append_assoc]
              clear HES hE
              go_wp2_with (first
                | (go_at_call 45; go_must (refine (HEY.out _).mono ?_); rintro e w3 ⟨rfl, h3⟩; have H3 : Hid (Bk 39 w3 wr.heap.size #[.string f, .string u] ∧ wr.grownBy w3 none) := ⟨HN9.out.1.grew h3 (by simp), gb_trans HN9.out.2 h3⟩; clear h3; have d0 := H3.out.1.cell 0; have d1 := H3.out.1.cell 1; simp only [List.getElem?_toArray, List.getElem?_cons_zero, List.getElem?_cons_succ] at d0 d1)
                | ((fail_if_success (have z := H4)); at_builtin; go_must (refine wpList_lit rfl _ _ 63 rfl w.heap.size 67 _ 3 32 Try.underlying63 infoEdge rfl (by decide) w3 (eE (f, 1, 1)).toArray rfl _ m (flE (edsL 0 A ++ edsL 1 (B.take k))) rfl (own_gb HO.out H3.out.2) rfl rfl (edge_one _) (by unfold maxLen; omega) (by omega) (Nat.le_trans (gb_of hr.out).size H3.out.2.size) ?_); intro g4 cap4 w4 ho4 hb4 hg4 hl4 ht4; have H4 : Hid (RQ w w4 w1.heap.size #[.slice a na ca, .slice b nb cb] (.slice (some ⟨g4, 0, none⟩) (m + 1) cap4) ((edsL 0 A ++ edsL 1 (B.take k)) ++ [(f, 1, 1)])) := app_of HM.out (hr.out.gb H3.out.2) ho4 hb4 hg4 hl4 ht4; have d2 : w4.cell? ⟨wr.heap.size, 1, none⟩ = some (.string u) := (hg4.cell_far ⟨wr.heap.size, 1, none⟩ (lt_of_block H3.out.1) (fun e => by have e1 := Option.some.inj e; have e2 := HGL.out; simp only at e1; omega)).trans d1; clear ho4 hb4 hg4 hl4 ht4))
              rw [← HAB.out]
              go_roundw
              case rel => exact ⟨k + 1, by omega, by simp, by rw [HED.out]; exact H4⟩
              case measure => simp [intOf]; omega
            · have HED : Hid (edsL 0 A ++ edsL 1 (B.take (k + 1)) = ((edsL 0 A ++ edsL 1 (B.take k)) ++ [(f, 1, 1)]) ++ [(u, 1, -1)]) := by show _ = _; rw [HES.out, eds_no2 hE hu]; simp
              have hu' := ne_nil hu
              clear HES hE
              go_wp2_with (first
                | (go_at_call 45; go_must (refine (HEY.out _).mono ?_); rintro e w3 ⟨rfl, h3⟩; have H3 : Hid (Bk 39 w3 wr.heap.size #[.string f, .string u] ∧ wr.grownBy w3 none) := ⟨HN9.out.1.grew h3 (by simp), gb_trans HN9.out.2 h3⟩; clear h3; have d0 := H3.out.1.cell 0; have d1 := H3.out.1.cell 1; simp only [List.getElem?_toArray, List.getElem?_cons_zero, List.getElem?_cons_succ] at d0 d1)
                | ((fail_if_success (have z := H4)); at_builtin; go_must (refine wpList_lit rfl _ _ 63 rfl w.heap.size 67 _ 3 32 Try.underlying63 infoEdge rfl (by decide) w3 (eE (f, 1, 1)).toArray rfl _ m (flE (edsL 0 A ++ edsL 1 (B.take k))) rfl (own_gb HO.out H3.out.2) rfl rfl (edge_one _) (by unfold maxLen; omega) (by omega) (Nat.le_trans (gb_of hr.out).size H3.out.2.size) ?_); intro g4 cap4 w4 ho4 hb4 hg4 hl4 ht4; have H4 : Hid (RQ w w4 w1.heap.size #[.slice a na ca, .slice b nb cb] (.slice (some ⟨g4, 0, none⟩) (m + 1) cap4) ((edsL 0 A ++ edsL 1 (B.take k)) ++ [(f, 1, 1)])) := app_of HM.out (hr.out.gb H3.out.2) ho4 hb4 hg4 hl4 ht4; have d2 : w4.cell? ⟨wr.heap.size, 1, none⟩ = some (.string u) := (hg4.cell_far ⟨wr.heap.size, 1, none⟩ (lt_of_block H3.out.1) (fun e => by have e1 := Option.some.inj e; have e2 := HGL.out; simp only at e1; omega)).trans d1; clear ho4 hb4 hg4 hl4 ht4)
                | (have z := H4; clear z; at_builtin; go_must (refine wpList_lit rfl _ _ 63 rfl w.heap.size 67 _ 3 32 Try.underlying63 infoEdge rfl (by decide) w4 (eE (u, 1, -1)).toArray rfl _ (m + 1) (flE ((edsL 0 A ++ edsL 1 (B.take k)) ++ [(f, 1, 1)])) rfl (own_of HM.out H4.out) rfl rfl (edge_one _) (by unfold maxLen; omega) (by omega) (gb_of H4.out).size ?_); intro g5 cap5 w5 ho5 hb5 hg5 hl5 ht5; have H5 : Hid (RQ w w5 w1.heap.size #[.slice a na ca, .slice b nb cb] (.slice (some ⟨g5, 0, none⟩) (m + 1 + 1) cap5) (((edsL 0 A ++ edsL 1 (B.take k)) ++ [(f, 1, 1)]) ++ [(u, 1, -1)])) := app_of (by rw [List.length_append, HM.out]; rfl) H4.out ho5 hb5 hg5 hl5 ht5; clear ho5 hb5 hg5 hl5 ht5))
              rw [← HAB.out]
              go_roundw
              case rel => exact ⟨k + 1, by omega, by simp, by rw [HED.out]; exact H5⟩
              case measure => simp [intOf]; omega
          · rw [hE] at HEY
            have HED : Hid (edsL 0 A ++ edsL 1 (B.take (k + 1)) = (edsL 0 A ++ edsL 1 (B.take k))) := by show _ = _; rw [HES.out, eds_yes hE]; simp
            clear HES hE
            go_wp2_with (first
              | (go_at_call 45; go_must (refine (HEY.out _).mono ?_); rintro e w3 ⟨rfl, h3⟩; have H3 : Hid (Bk 39 w3 wr.heap.size #[.string f, .string u] ∧ wr.grownBy w3 none) := ⟨HN9.out.1.grew h3 (by simp), gb_trans HN9.out.2 h3⟩; clear h3; have d0 := H3.out.1.cell 0; have d1 := H3.out.1.cell 1; simp only [List.getElem?_toArray, List.getElem?_cons_zero, List.getElem?_cons_succ] at d0 d1))
            rw [← HAB.out]
            go_roundw
            case rel => exact ⟨k + 1, by omega, by simp, by rw [HED.out]; exact hr.out.gb H3.out.2⟩
            case measure => simp [intOf]; omega
        · obtain rfl : k = nb := by omega
          have HF : Hid (edsL 0 A ++ edsL 1 (B.take k) = edsL 0 A ++ edsL 1 B) := by show _ = _; rw [List.take_of_length_le (by have := HNB.out; omega)]
          rw [HF.out] at hr
          go_wp2
          go_roundw
          case rel => exact .inr (.inr ⟨rfl, hr⟩)
          case measure => simp [intOf]
    · obtain ⟨g, cap, rfl, ho, hgT, hgl, hbk, hgw⟩ := HR.out
      have HEL : Hid ((edsL 0 A ++ edsL 1 B).length ≤ 2 * (na + nb)) := by
        show _ ≤ _
        have h1 := edsL_len 0 A
        have h2 := edsL_len 1 B
        have h3 := HNA.out
        have h4 := HNB.out
        rw [List.length_append]; omega
      have HSO : Hid _ := sortE_c w.heap.size g cap _ wr ho (by have := HEL.out; omega) hgl
      have hgw' := hgw
      have HGB : Hid (w.heap.size ≤ g) := by
        rcases ho.2 with ⟨h0, _⟩ | ⟨g', cap', cur, h0, hB, _⟩
        · cases h0
        · cases h0; exact hB
      obtain ⟨E, hEE⟩ : ∃ E, E = edsL 0 A ++ edsL 1 B := ⟨_, rfl⟩
      rw [← hEE] at HSO HEL ⊢
      have HEE : Hid (E = edsL 0 A ++ edsL 1 B) := hEE
      clear hEE
      clear HR ho hgT hbk
      have HGW : Hid _ := hgw
      clear hgw hgw'
      obtain ⟨m, hm⟩ : ∃ m, m = E.length := ⟨_, rfl⟩
      rw [← hm] at HSO HEL ⊢
      have HM : Hid (m = E.length) := hm
      clear hm
      go_wp2_with (go_at_call 46; go_must (refine (Calls.mono HSO.out ?_)); rintro e w2 ⟨rfl, E', hp, hs, hc, hl, hgb⟩; have H2 : Hid (E.Perm E' ∧ Srt E' ∧ Cells w2 (some ⟨g, 0, none⟩) (flE E') ∧ E'.length = m ∧ wr.grownBy w2 (some g)) := ⟨hp, hs, hc, hl, hgb⟩; clear hp hs hc hl hgb)
      go_ret
      obtain ⟨hp, hs, hc, hl, hgb⟩ := H2.out
      exact ⟨g, cap, E', by rw [hl]; rfl, by rw [← HEE.out]; exact hp, hs, hc, by rw [hl]; exact HEL.out, gb_newer HGW.out hgb HGB.out⟩
end Go.Proofs.Ytdjcokepeifojaa
