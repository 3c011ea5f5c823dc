/-
  What span's Ranges answers of whatever numbers: the texts of these buckets, in normal form. Condition: there are at most 2^62 numbers.
-/
import Derived.Test.YtdjcokepeifojaaNAw
import Derived.Test.YtdjcokepeifojaaNHo
import Derived.OwnWalk
namespace Go.Proofs.Ytdjcokepeifojaa
set_option linter.unusedVariables false
open Go.RowKit

def rgE (d : Int) (X : List Int) : Int := if nbk d = 0 then 61 else if (∃ x ∈ X, x < 0 ∨ nbk d ≤ x) then 62 else 0
/-- A row of truths. -/
def bl (n : Nat) (F : Nat → Bool) : List Value := (List.range n).map fun i => Value.bool (F i)
theorem bl_len (n : Nat) (F : Nat → Bool) : (bl n F).length = n := by simp [bl]
theorem bl_set (n : Nat) (F : Nat → Bool) (i : Nat) (hi : i < n) : (bl n F).set i (.bool true) = bl n (fun j => decide (j = i) || F j) := by
  apply List.ext_getElem
  · simp [bl]
  · intro j h1 h2
    have hj : j < n := by simpa [bl] using h2
    rw [List.getElem_set]
    by_cases e : i = j
    · subst e; simp [bl]
    · have e2 : ¬ j = i := fun h => e h.symm
      simp [bl, e, e2]
theorem own_set1 {w : World} {B : Nat} {g n cap : Nat} {xs : List Value} {e : TypeId} (h : w.ownsRow B e 1 (.slice (some ⟨g, 0, none⟩) n cap) n xs) (i : Nat) (v : Value) :
    (w.setCell ⟨g, i, none⟩ v).ownsRow B e 1 (.slice (some ⟨g, 0, none⟩) n cap) n (xs.set i v) := by
  refine ⟨by have := h.1; simpa using this, .inr ?_⟩
  rcases h.2 with ⟨h', _⟩ | ⟨g', cap', cur, h', hB, hg, hn, hm, hsz, htake⟩
  · simp at h'
  · simp only [Value.slice.injEq, Option.some.injEq, Addr.mk.injEq, and_true, true_and] at h'
    obtain ⟨rfl, rfl⟩ := h'
    refine ⟨g, cap, cur.setIfInBounds i v, rfl, hB, ?_, hn, hm, by simpa using hsz, ?_⟩
    · rw [heap_setCell_same w g _ _ e _ hg]
    · rw [Array.toList_setIfInBounds, List.take_set, htake]
theorem own_cell1 {w : World} {B : Nat} {g n cap : Nat} {xs : List Value} {e : TypeId} (h : w.ownsRow B e 1 (.slice (some ⟨g, 0, none⟩) n cap) n xs) (i : Nat) (hi : i < n) : w.cell? ⟨g, i, none⟩ = xs[i]? ∧ w.frozen? ⟨g, i, none⟩ = false := by
  rcases h.2 with ⟨h', _⟩ | ⟨g', cap', cur, h', hB, hg, hn, hm, hsz, htake⟩
  · simp at h'
  · simp only [Value.slice.injEq, Option.some.injEq, Addr.mk.injEq, and_true, true_and] at h'
    obtain ⟨rfl, rfl⟩ := h'
    refine ⟨?_, frozen_of_row _ _ i _ _ hg⟩
    rw [cell_of_row w g _ _ _ _ hg, ← htake, List.getElem?_take_of_lt (by omega)]; simp
theorem infoBool : (Try.prog.info? 4).map (fun i => (i.zero, i.size, i.bytes)) = some (some (.bool false), 1, 1) := by kernel_rfl
/-- The ranges of the first buckets that are named. -/
def nRg (D : Nat) (F : Nat → Bool) : Nat → List Rg
  | 0 => []
  | k + 1 => if F k = true then nRg D F k ++ [ofR D k] else nRg D F k
theorem nRg_len (D : Nat) (F : Nat → Bool) (k : Nat) : (nRg D F k).length ≤ k := by
  induction k with
  | zero => simp [nRg]
  | succ k ih =>
    simp only [nRg]
    by_cases h : F k = true
    · rw [if_pos h, List.length_append]; simp; omega
    · rw [if_neg h]; omega
theorem nRg_has (D : Nat) (h1 : 1 ≤ D) (h3 : D ≤ 3) (F : Nat → Bool) (t : ByteArray) (k : Nat) (hk : (k : Int) ≤ nbk D) : lHas (nRg D F k) t = (decide (bkt t D < k) && F (bkt t D).toNat) := by
  have hb := bkt_lt D h1 h3 t
  induction k with
  | zero => simp [nRg, lHas]; omega
  | succ k ih =>
    have ih := ih (by omega)
    have hh := of_has D h1 h3 t k ⟨by omega, by omega⟩
    have e : lHas (nRg D F k ++ [ofR D k]) t = (lHas (nRg D F k) t || decide (bkt t D = k)) := by rw [lHas_app]; simp [lHas, hh]
    simp only [nRg]
    by_cases hF : F k = true
    · rw [if_pos hF, e, ih]
      by_cases he : bkt t D = k
      · rw [he]; simp [hF]; omega
      · by_cases hl : bkt t D < k
        · have : bkt t D < (k : Int) + 1 := by omega
          simp [hl, he, this]
        · have : ¬ bkt t D < (k : Int) + 1 := by omega
          simp [hl, he, this]
    · rw [if_neg hF, ih]
      by_cases he : bkt t D = k
      · have h5 : F (bkt t D).toNat = false := by rw [he]; simpa using hF
        rw [h5]; simp
      · by_cases hl : bkt t D < k
        · have : bkt t D < (k : Int) + 1 := by omega
          simp [hl, this]
        · have : ¬ bkt t D < (k : Int) + 1 := by omega
          simp [hl, this]
/-- Which buckets the first numbers name. -/
def nm (X : List Int) (k : Nat) (j : Nat) : Bool := decide ((j : Int) ∈ X.take k)
theorem nm_zero (X : List Int) (n : Nat) : bl n (nm X 0) = List.replicate n (.bool false) := by
  apply List.ext_getElem
  · simp [bl]
  · intro i h1 h2; simp [bl, nm]
theorem nm_step (X : List Int) (k n : Nat) (hk : k < X.length) (h0 : 0 ≤ X.getD k 0) (hn : X.getD k 0 < (n : Int)) : (bl n (nm X k)).set (X.getD k 0).toNat (.bool true) = bl n (nm X (k + 1)) := by
  rw [bl_set n _ _ (by omega)]
  unfold bl
  refine List.map_congr_left fun j _ => ?_
  congr 1
  have e : X.getD k 0 = X[k] := by simp [hk]
  unfold nm
  rw [List.take_succ_eq_append_getElem hk, ← e]
  generalize X.getD k 0 = x at *
  simp only [List.mem_append, List.mem_singleton]
  by_cases h : (j : Int) = x
  · have h2 : j = x.toNat := by omega
    rw [decide_eq_true h2, decide_eq_true (Or.inr h)]; rfl
  · have h2 : ¬ j = x.toNat := by omega
    rw [decide_eq_false h2, Bool.false_or, decide_eq_decide]
    exact ⟨fun a => .inl a, fun a => a.elim id (fun b => absurd b h)⟩
theorem rgE_yes {D : Nat} {X : List Int} (h1 : 1 ≤ D) (h3 : D ≤ 3) (h : ∀ x ∈ X, 0 ≤ x ∧ x < nbk D) : rgE D X = 0 := by
  have hn := nbk_bd D h1 h3
  unfold rgE
  rw [if_neg (by omega), if_neg]
  rintro ⟨x, hx, h4⟩
  have := h x hx
  omega
theorem rgE_no {D : Nat} {X : List Int} (h1 : 1 ≤ D) (h3 : D ≤ 3) {x : Int} (hx : x ∈ X) (h : x < 0 ∨ nbk D ≤ x) : rgE D X = 62 := by
  have hn := nbk_bd D h1 h3
  unfold rgE
  rw [if_neg (by omega), if_pos ⟨x, hx, h⟩]
theorem made_bl (n : Nat) : (madeCells (Value.bool false).cells (n * 1)).toList = List.replicate n (.bool false) := by
  rw [Nat.mul_one]
  apply List.ext_getElem
  · simp [madeCells]
  · intro i h1 h2
    simp [madeCells, Value.cells, Nat.mod_one]
theorem cells_bl {w : World} {g n : Nat} {F : Nat → Bool} (h : Cells w (some ⟨g, 0, none⟩) (bl n F)) (i : Nat) (hi : i < n) : w.cell? ⟨g, i, none⟩ = some (.bool (F i)) := by
  rcases h with h | ⟨b, off, ha, _, hc⟩
  · have e : (bl n F).length = 0 := by rw [h]; rfl
    rw [bl_len] at e; omega
  · cases ha
    have := hc i (.bool (F i)) (by simp [bl, hi])
    rwa [Nat.zero_add] at this
theorem cells_int {w : World} {a : Option Addr} {X : List Int} (h : Cells w a (i64s X)) (i : Nat) (hi : i < X.length) : ∃ b off, a = some ⟨b, off, none⟩ ∧ b < w.heap.size ∧ w.cell? ⟨b, off + i, none⟩ = some (.int .i64 (X.getD i 0)) := by
  rcases h with h | ⟨b, off, ha, hb, hc⟩
  · have e : (i64s X).length = 0 := by rw [h]; rfl
    rw [i64s, List.length_map] at e; omega
  · exact ⟨b, off, ha, hb, hc i _ (by simp [i64s, hi])⟩
set_option maxRecDepth 20000 in
set_option maxHeartbeats 2000000 in
theorem ranges_c (d : Int) (X : List Int) (a : Option Addr) (ca : Nat) (w : World) (hX : Cells w a (i64s X)) (hn : X.length ≤ 4611686018427387903) :
    Calls Try.prog 6 #[.int .i64 d, .slice a X.length ca] w fun e w' => ∃ v R, e = .returned (.tuple #[v, .int .i64 (rgE d X)]) ∧ w'.ownsRow w.heap.size 39 2 v R.length (flR R) ∧ Nrm R ∧ (rgE d X = 0 → ∀ t, lHas R t = decide (bkt t d.toNat ∈ X)) ∧ (¬ rgE d X = 0 → R = []) ∧ R.length ≤ 8193 ∧ w.grownBy w' none := by
  have HX : Hid (Cells w a (i64s X)) := hX
  have HC : Hid _ := fun w => count_c d w
  obtain ⟨L, hL⟩ : ∃ L, L = X.length := ⟨_, rfl⟩
  rw [← hL] at hn ⊢
  have HL : Hid (L = X.length) := hL
  clear hX hL
  rcases deep_cases d with ⟨D, rfl, h1, h3⟩ | h
  · have hnb := nbk_bd D h1 h3
    obtain ⟨n, hnn⟩ : ∃ n : Nat, nbk D = (n : Int) := ⟨(nbk D).toNat, by omega⟩
    obtain ⟨E, hE⟩ : ∃ E, E = rgE D X := ⟨_, rfl⟩
    have HE : Hid (E = rgE D X) := hE
    rw [← hE]
    have HO : Hid (∀ k : Nat, k < n → ∀ w, Calls Try.prog 17 #[.int .i64 D, .int .i64 k] w fun r w' => r = .returned (.tuple #[rv (ofR D k), .int .i64 0]) ∧ w.grownBy w' none) := fun k hk w => by
      have := of_c D k w
      rwa [(ofE_yes h1 h3 (b := (k : Int)) ⟨by omega, by omega⟩).1] at this
    have HNB : Hid (nbk D = (n : Int)) := hnn
    rw [hnn] at HC hnb
    clear hE hnn
    have hz : ¬ (n : Int) = 0 := by omega
    obtain ⟨i0, hi0, hz0, hs0, hy0⟩ := info_parts' infoBool
    go_enter Try.func6, Try.ntmps6
    go_wp2_with (first
      | (go_at_call 16; go_must (refine (HC.out _).mono ?_); rintro e w1 ⟨rfl, rfl⟩)
      | (at_make; go_must (refine wpList_make_full _ rfl _ _ 46 rfl w1.heap.size 4 i0 (.bool false) 1 Try.underlying46 hi0 hz0 hs0 _ _ _ _ n rfl rfl rfl rfl (by rw [hy0]; omega) (by unfold maxLen; omega) (Nat.le_refl _) ?_); intro w2 hown hgrow; rw [made_bl, ← nm_zero X] at hown; have H2 : Hid (w2.ownsRow w1.heap.size 4 1 (.slice (some ⟨w1.heap.size, 0, none⟩) n n) n (bl n (nm X 0)) ∧ w1.grownBy w2 none ∧ ∀ x ∈ X.take 0, 0 ≤ x ∧ x < (n : Int)) := ⟨hown, hgrow, fun x hx => by simp at hx⟩; clear hown hgrow))
    clear HC
    go_loopw [23] (fun i wr => ∃ k : Nat, k ≤ L ∧ i = .int .i64 k ∧ Hid (wr.ownsRow w1.heap.size 4 1 (.slice (some ⟨w1.heap.size, 0, none⟩) n n) n (bl n (nm X k)) ∧ w1.grownBy wr none ∧ ∀ x ∈ X.take k, 0 ≤ x ∧ x < (n : Int))) (fun i _ => L - (intOf i).toNat)
    case atStart => exact ⟨0, Nat.zero_le _, rfl, H2⟩
    case round =>
      obtain ⟨k, hk, rfl, hr⟩ := hrel
      clear H2
      by_cases hlt : k < L
      · obtain ⟨ba, oa, hab, hba, c0⟩ := cells_int (HX.out.gb hr.out.2.1) k (by have := HL.out; omega)
        have HST : Hid _ := nm_step X k n (by have := HL.out; omega)
        have HME : Hid (X.getD k 0 ∈ X) := by
          have hk' : k < X.length := by have := HL.out; omega
          have e : X.getD k 0 = X[k] := by simp [hk']
          show _ ∈ _
          rw [e]; exact List.getElem_mem hk'
        have HTK : Hid (X.take (k + 1) = X.take k ++ [X.getD k 0]) := by
          have hk' : k < X.length := by have := HL.out; omega
          show _ = _
          rw [List.take_succ_eq_append_getElem hk']; simp [hk']
        generalize X.getD k 0 = x at *
        have i1 : (0 : Int) ≤ (k : Int) := by omega
        have i2 : (k : Int) < (L : Int) := by omega
        have HAB : Hid _ := hab
        rw [hab]
        clear hab
        by_cases hbad : x < 0 ∨ (n : Int) ≤ x
        · have HEE : Hid (E = 62) := by show _ = _; rw [HE.out]; exact rgE_no h1 h3 HME.out (by rw [HNB.out]; exact hbad)
          rcases (show x < 0 ∨ (¬ x < 0 ∧ (n : Int) ≤ x) by omega) with hx | ⟨hx, hx2⟩
          · go_wp2
            go_ret2
            exact ⟨.slice none 0 0, ([] : List Rg), by rw [HEE.out]; rfl, own_none _ _ _ _, trivial, (fun h => by rw [HEE.out] at h; cases h), (fun _ => rfl), by simp, hr.out.2.1⟩
          · go_wp2
            go_ret2
            exact ⟨.slice none 0 0, by rw [HEE.out]; rfl, ([] : List Rg), own_none _ _ _ _, trivial, (fun h => by rw [HEE.out] at h; cases h), (fun _ => rfl), by simp, hr.out.2.1⟩
        · have hx1 : ¬ x < 0 := by omega
          have hx2 : ¬ (n : Int) ≤ x := by omega
          have hx3 : (0 : Int) ≤ x := by omega
          have hx4 : x < (n : Int) := by omega
          obtain ⟨q, hq⟩ : ∃ q : Nat, x = q := ⟨x.toNat, by omega⟩
          have HS2 : Hid _ := HST.out hx3 hx4
          have hc1 := own_cell1 hr.out.1 q (by omega)
          have hc2 : wr.cell? ⟨w1.heap.size, q, none⟩ = some (.bool (nm X k q)) := by rw [hc1.1]; simp [bl, show q < n by omega]
          have hc3 := hc1.2
          have HNX : Hid (∀ y ∈ X.take (k + 1), 0 ≤ y ∧ y < (n : Int)) := fun y hy => by
            rw [HTK.out] at hy
            rcases List.mem_append.1 hy with hy | hy
            · exact hr.out.2.2 y hy
            · simp at hy; omega
          have HOW : Hid _ := own_set1 hr.out.1 q (.bool true)
          subst hq
          have hqn : ((q : Int)).toNat = q := by omega
          rw [hqn] at HS2
          rw [HS2.out] at HOW
          clear hc1 hbad HST HTK HS2
          go_wp2
          try rw [← HAB.out]
          go_roundw
          case rel => exact ⟨k + 1, by omega, by simp, HOW.out, gb_newer hr.out.2.1 (gb_set _ _ _ _) (Nat.le_refl _), HNX.out⟩
          case measure => simp [intOf]; omega
      · obtain rfl : k = L := by omega
        have hall := hr.out.2.2
        rw [List.take_of_length_le (by have := HL.out; omega)] at hall
        have HEE : Hid (E = 0) := by show _ = _; rw [HE.out]; exact rgE_yes h1 h3 (fun x hx => by rw [HNB.out]; exact hall x hx)
        have HNM : Hid (Cells wr (some ⟨w1.heap.size, 0, none⟩) (bl n (nm X k))) := by
          obtain ⟨x, c, he, hc, _⟩ := own_cells hr.out.1
          cases he
          exact hc
        have HF : Hid (∀ j, nm X k j = decide ((j : Int) ∈ X)) := fun j => by
          unfold nm
          rw [List.take_of_length_le (by have := HL.out; omega)]
        have HG : Hid (w1.grownBy wr none) := hr.out.2.1
        have hglt : w1.heap.size < wr.heap.size := own_lt hr.out.1
        generalize nm X k = F at *
        obtain ⟨W2, rfl⟩ : ∃ W2, W2 = wr := ⟨_, rfl⟩
        clear hr hall
        go_wp2
        go_loopw [10, 40] (fun v i wr => ∃ j : Nat, j ≤ n ∧ i = .int .i64 j ∧ Hid (wr.ownsRow W2.heap.size 39 2 v (nRg D F j).length (flR (nRg D F j)) ∧ W2.grownBy wr none)) (fun _ i _ => n - (intOf i).toNat)
        case atStart => exact ⟨0, Nat.zero_le _, rfl, own_none _ _ _ _, gb_refl _⟩
        case round =>
          obtain ⟨j, hj, rfl, hr⟩ := hrel
          by_cases hjn : j < n
          · have hcF := cells_bl (HNM.out.gb hr.out.2) j hjn
            have hlen := nRg_len D F j
            have HRS : Hid (nRg D F (j + 1) = if F j = true then nRg D F j ++ [ofR D j] else nRg D F j) := rfl
            have i1 : (0 : Int) ≤ (j : Int) := by omega
            have i2 : (j : Int) < (n : Int) := by omega
            cases hFj : F j
            · rw [hFj] at hcF
              rw [hFj, if_neg (by simp)] at HRS
              clear hFj
              go_wp2
              go_roundw
              case rel => exact ⟨j + 1, by omega, by simp, by rw [HRS.out]; exact hr.out.1, hr.out.2⟩
              case measure => simp [intOf]; omega
            · rw [hFj] at hcF
              rw [hFj, if_pos rfl] at HRS
              clear hFj
              have HOJ : Hid _ := HO.out j hjn
              generalize ofR D j = r at *
              obtain ⟨f, u⟩ := r
              generalize nRg D F j = Lj at *
              unfold rv at HOJ
              go_wp2_with (first
                | (go_at_call 17; go_must (refine (HOJ.out _).mono ?_); rintro e w3 ⟨rfl, h⟩; have H3 : Hid (w3.ownsRow W2.heap.size 39 2 _ Lj.length (flR Lj) ∧ W2.grownBy w3 none) := ⟨own_gb hr.out.1 h, gb_trans hr.out.2 h⟩; clear h)
                | (at_builtin; go_must (refine wpList_lit rfl _ _ 24 rfl W2.heap.size 39 _ 2 32 Try.underlying24 infoRange rfl (by decide) (w3.alloc (.cells #[.string f, .string u] 39)) (rC (f, u)).toArray rfl _ Lj.length (flR Lj) rfl (own_gb H3.out.1 (gb_alloc _ _)) (by show Value.slice (some ⟨_, 0, none⟩) 1 1 = _; rw [World.size_alloc]) rfl (range_one _) (by unfold maxLen; omega) (by omega) (Nat.le_trans H3.out.2.size (gb_alloc _ _).size) ?_); intro g6 cap6 w6 ho6 hb6 _ _ _; have H6 : Hid (w6.ownsRow W2.heap.size 39 2 (.slice (some ⟨g6, 0, none⟩) (Lj.length + 1) cap6) (Lj.length + 1) (flR (Lj ++ [(f, u)])) ∧ W2.grownBy w6 none) := ⟨(by rw [flR_snoc]; exact ho6), below_gb ((gb_below (gb_trans H3.out.2 (gb_alloc _ _))).trans hb6)⟩; clear ho6 hb6))
              go_roundw
              case rel => exact ⟨j + 1, by omega, by simp, by rw [HRS.out, List.length_append]; exact H6.out.1, H6.out.2⟩
              case measure => simp [intOf]; omega
          · obtain rfl : j = n := by omega
            obtain ⟨xl, cl, rfl, hcl, -⟩ := own_cells hr.out.1
            have hlen := nRg_len D F j
            have HNR : Hid _ := normal_c (nRg D F j) xl cl wr hcl (by omega)
            have HHA : Hid (∀ t, lHas (nRg D F j) t = decide (bkt t D ∈ X)) := fun t => by
              have hb := bkt_lt D h1 h3 t
              rw [nRg_has D h1 h3 F t j (by rw [HNB.out]; exact Int.le_refl _), decide_eq_true (by rw [← HNB.out]; exact hb.2), Bool.true_and, HF.out, Int.toNat_of_nonneg hb.1]
            generalize nRg D F j = Lj at *
            clear hcl
            go_wp2_with (first
              | (go_at_call 11; go_must (refine (Calls.mono HNR.out ?_)); rintro e w7 ⟨v, R, rfl, k1, k2, k3, k4, k5⟩; have H7 : Hid (w7.ownsRow wr.heap.size 39 2 v R.length (flR R) ∧ Nrm R ∧ (∀ t, lHas R t = lHas Lj t) ∧ R.length ≤ 2 * Lj.length + 1 ∧ wr.grownBy w7 none) := ⟨k1, k2, k3, k4, k5⟩; clear k1 k2 k3 k4 k5))
            go_ret2
            refine ⟨_, R, by rw [HEE.out]; rfl, own_base H7.out.1 (Nat.le_trans HG.out.size hr.out.2.size), H7.out.2.1, (fun _ t => by rw [H7.out.2.2.1, HHA.out, Int.toNat_natCast]), (fun h => absurd HEE.out h), by have := H7.out.2.2.2.1; omega, gb_trans (gb_trans HG.out hr.out.2) H7.out.2.2.2.2⟩
  · have e1 : rgE d X = 61 := by unfold rgE; rw [if_pos (nbk_none h)]
    rw [e1]
    rw [nbk_none h] at HC
    go_enter Try.func6, Try.ntmps6
    go_wp2_with (first
      | (go_at_call 16; go_must (refine (HC.out _).mono ?_); rintro e w1 ⟨rfl, rfl⟩))
    go_ret2
    exact ⟨_, [], rfl, own_none _ _ _ _, trivial, (fun h => by cases h), (fun _ => rfl), by simp, gb_refl _⟩
end Go.Proofs.Ytdjcokepeifojaa
