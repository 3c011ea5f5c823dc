/-
  What the document's least answers, and what span's and the document's Of answer. Condition of least: the depth is one, and there is that bucket.
-/
import Derived.Test.YtdjcokepeifojaaDoorNLe
import Derived.Test.YtdjcokepeifojaaDoorNHp
import Derived.Test.YtdjcokepeifojaaDoorNOw
namespace Go.Proofs.YtdjcokepeifojaaDoor
set_option linter.unusedVariables false
open Go.RowKit

/-- The last k digits of a number, and the number without them. -/
def rst (b : Int) : Nat → Int
  | 0 => b
  | k + 1 => rst b k / 16
def dgs (b : Int) : Nat → List Int
  | 0 => []
  | k + 1 => (rst b k % 16) :: dgs b k
theorem dgs_len (b : Int) (k : Nat) : (dgs b k).length = k := by
  induction k with
  | zero => rfl
  | succ k ih => simp [dgs, ih]
theorem rst_bd (b : Int) (h : 0 ≤ b ∧ b < 4096) (k : Nat) : 0 ≤ rst b k ∧ rst b k < 4096 := by
  induction k with
  | zero => exact h
  | succ k ih => simp only [rst]; omega
/-- The bytes of digits. -/
def d2b : List Int → List Int
  | a :: c :: l => (a * 16 + c) % 256 :: d2b l
  | _ => []
theorem d2b_lraw (D : Nat) (b : Int) (h : 0 ≤ b ∧ b < 4096) (h1 : 1 ≤ D) (h3 : D ≤ 3) : d2b (if D % 2 = 1 then dgs b D ++ [0] else dgs b D) = lraw D b := by
  rcases (show D = 1 ∨ D = 2 ∨ D = 3 by omega) with rfl | rfl | rfl
  · simp only [dgs, rst, lraw]
    simp
    simp [d2b]
    omega
  · simp only [dgs, rst, lraw]
    simp
    simp [d2b]
    omega
  · simp only [dgs, rst, lraw]
    simp
    simp [d2b]
    omega
theorem rem16 (x : Int) (h : 0 ≤ x ∧ x < 4096) : x.tmod 16 = x % 16 ∧ x.tdiv 16 = x / 16 := ⟨Int.tmod_eq_emod_of_nonneg h.1, Int.tdiv_eq_ediv_of_nonneg h.1⟩
theorem at_app {k : Nat} : ((k : Int) + 1 : Int) = ((k + 1 : Nat) : Int) := by omega
theorem d2b_len : ∀ (q : Nat) (L : List Int), L.length = 2 * q → (d2b L).length = q
  | 0, L, h => by rw [List.eq_nil_of_length_eq_zero (by omega : L.length = 0)]; rfl
  | q + 1, a :: c :: L, h => by simp only [List.length_cons] at h; simp only [d2b, List.length_cons]; rw [d2b_len q L (by omega)]
  | q + 1, [], h => by simp at h
  | q + 1, [_], h => by simp at h; omega
theorem d2b_at : ∀ (q : Nat) (L : List Int) (k : Nat), L.length = 2 * q → k < q → (d2b L).take (k + 1) = (d2b L).take k ++ [(L.getD (2 * k) 0 * 16 + L.getD (2 * k + 1) 0) % 256]
  | 0, L, k, h, hk => by omega
  | q + 1, [], k, h, hk => by simp at h
  | q + 1, [_], k, h, hk => by simp at h; omega
  | q + 1, a :: c :: L, 0, h, hk => by simp [d2b]
  | q + 1, a :: c :: L, k + 1, h, hk => by
    simp only [List.length_cons] at h
    have := d2b_at q L k (by omega) (by omega)
    simp only [d2b, List.take_succ_cons, List.cons_append]
    rw [this]
    simp [show 2 * (k + 1) = 2 * k + 1 + 1 from by omega]
theorem d2b_bytes : ∀ (L : List Int), Bytes (d2b L)
  | [] => fun i hi => by simp [d2b] at hi
  | [_] => fun i hi => by simp [d2b] at hi
  | a :: c :: L => bytes_of_mem fun z hz => by
    simp only [d2b, List.mem_cons] at hz
    rcases hz with rfl | hz
    · omega
    · exact (d2b_bytes L).mem z hz
theorem trimS_str (xs : List Int) (hb : Bytes xs) (c : Int) : trimS (strOfNums xs) c = strOfNums (xs.take (trimN xs c xs.length)) := by
  apply bs_inj
  rw [bs_trim, bs_str xs hb, bs_str]
  exact bytes_of_mem fun z hz => hb.mem z (List.mem_of_mem_take hz)
theorem dgs_bd (b : Int) (k : Nat) : ∀ z ∈ dgs b k, 0 ≤ z ∧ z < 16 := by
  induction k with
  | zero => intro z hz; cases hz
  | succ k ih =>
    intro z hz
    simp only [dgs, List.mem_cons] at hz
    rcases hz with rfl | hz
    · omega
    · exact ih z hz
theorem cells_i64 {w : World} {b off : Nat} {xs : List Int} (h : Cells w (some ⟨b, off, none⟩) (i64s xs)) (i : Nat) (hi : i < xs.length) : w.cell? ⟨b, off + i, none⟩ = some (.int .i64 (xs.getD i 0)) := by
  rcases h with h | ⟨b', off', ha, _, hc⟩
  · have e : (i64s xs).length = 0 := by rw [h]; rfl
    rw [i64s, List.length_map] at e; omega
  · cases ha; exact hc i _ (by simp [i64s, hi])
theorem cells_seg {w : World} {b off : Nat} {xs : List Int} (h : Cells w (some ⟨b, off, none⟩) (u8l xs)) : Seg .u8 w (some ⟨b, off, none⟩) xs.length xs := by
  refine ⟨rfl, ?_⟩
  rcases h with h | ⟨b', off', ha, hl, hc⟩
  · left; have := congrArg List.length h; simpa [u8l] using this
  · cases ha; exact .inr ⟨b, off, rfl, hl, fun i hi => hc i _ (by simp [u8l, hi])⟩
theorem mem_bd (L : List Int) (h : ∀ z ∈ L, 0 ≤ z ∧ z < 16) (i : Nat) : 0 ≤ L.getD i 0 ∧ L.getD i 0 < 16 := by
  by_cases hi : i < L.length
  · have := h _ (List.getElem_mem hi); simpa [hi] using this
  · rw [List.getD_eq_getElem?_getD, List.getElem?_eq_none (by omega)]; simp
set_option maxRecDepth 20000 in
set_option maxHeartbeats 1000000 in
theorem gleast_c (D : Nat) (b : Int) (h1 : 1 ≤ D) (h3 : D ≤ 3) (hb : 0 ≤ b ∧ b < 4096) (w : World) : Calls Tryd.prog 39 #[.int .i64 D, .int .i64 b] w fun r w' => r = .returned (.string (lst D b)) ∧ w.grownBy w' none := by
  have HL : Hid (lst D b = trimS (strOfNums (d2b (if D % 2 = 1 then dgs b D ++ [0] else dgs b D))) 0) := by show _ = _; rw [d2b_lraw D b hb h1 h3]; rfl
  generalize lst D b = T at *
  obtain ⟨i3, hi3, hz3, hs3, hy3⟩ := info_parts' infoInt
  obtain ⟨i5, hi5, hz5, hs5, hy5⟩ := info_parts' infoByte
  have HRB : Hid (∀ k, 0 ≤ rst b k ∧ rst b k < 4096) := rst_bd b hb
  go_enter Tryd.func39, Tryd.ntmps39
  go_wp2
  go_loopw [1, 5, 6] (fun x v i wr => ∃ k : Nat, k ≤ D ∧ i = .int .i64 k ∧ x = .int .i64 (rst b k) ∧ (k = 0 → v = .slice none 0 0) ∧ Hid (wr.ownsRow w.heap.size 3 1 v k (i64s (dgs b k)) ∧ w.grownBy wr none)) (fun _ _ i _ => D - (intOf i).toNat)
  case atStart => exact ⟨0, Nat.zero_le _, rfl, rfl, fun _ => rfl, own_none _ _ _ _, gb_refl _⟩
  case round =>
    obtain ⟨k, hk, rfl, rfl, hv0, hr⟩ := hrel
    have hrb := HRB.out k
    obtain ⟨q1, q2⟩ := rem16 _ hrb
    by_cases hlt : k < D
    · have hki : (k : Int) < D := by omega
      have HRS : Hid (rst b (k + 1) = rst b k / 16 ∧ dgs b (k + 1) = (rst b k % 16) :: dgs b k) := ⟨rfl, rfl⟩
      generalize rst b k = R at *
      generalize hc : R % 16 = c at *
      have hcb : 0 ≤ c ∧ c < 16 := by omega
      clear hc
      have HO : Hid _ := own_lit wr 3 1 1 #[.int .i64 c] rfl (by decide)
      by_cases hk0 : k = 0
      · subst hk0
        obtain rfl := hv0 rfl
        go_wp2_with (first
          | (at_builtin; go_must (refine wpList_append_own_none rfl _ _ 34 rfl wr.heap.size 3 i3 1 Tryd.underlying34 hi3 _ 1 [.int .i64 c] rfl HO.out rfl ?_)))
        go_roundw
        case rel => exact ⟨1, by omega, rfl, by rw [HRS.out.1], (fun h => by cases h), by rw [HRS.out.2]; exact own_base HO.out hr.out.2.size, gb_trans hr.out.2 (gb_alloc _ _)⟩
        case measure => simp [intOf]; omega
      · obtain ⟨g, cap, rfl, hg1, hg2⟩ := World.ownsRow.form hr.out.1 (by omega)
        have HC : Hid (Cells (wr.alloc (.cells #[.int .i64 c] 3)) (some ⟨g, 0, none⟩) (i64s (dgs b k))) := by
          obtain ⟨a, cp, he, hc, _⟩ := own_cells hr.out.1
          cases he
          exact hc.gb (gb_alloc _ _)
        go_wp2_with (first
          | (at_builtin; go_must (refine wpList_append_lies _ rfl _ _ 34 rfl wr.heap.size 3 i3 (.int .i64 0) 1 8 Tryd.underlying34 hi3 hz3 hs3 hy3 rfl (by decide) _ 1 [.int .i64 c] rfl HO.out ⟨g, 0, none⟩ k cap (i64s (dgs b k)) rfl (by simp [i64s, dgs_len]) HC.out.news (i64s_one _) (by omega) (by unfold maxLen; omega) (by omega) (by simp) _ rfl ?_); intro g2 cap2 w2 ho2 hg2 _ _; have HO2 : Hid _ := ho2; have HG2 : Hid _ := gb_own HO.out hg2 (by simp); clear ho2 hg2))
        go_roundw
        case rel => exact ⟨k + 1, by omega, by simp, by rw [HRS.out.1], (fun h => by cases h), by rw [HRS.out.2, Nat.add_comm k 1]; exact own_base HO2.out hr.out.2.size, gb_trans hr.out.2 (below_gb (((Below.refl _ _).alloc (Nat.le_refl _) _).trans HG2.out))⟩
        case measure => simp [intOf]; omega
    · obtain rfl : k = D := by omega
      obtain ⟨g, cap, rfl, hg1, hg2⟩ := World.ownsRow.form hr.out.1 (by omega)
      clear hv0 HRB
      generalize rst b k = R at *
      by_cases hodd : k % 2 = 1
      · rw [if_pos hodd] at HL
        have hp : (k : Int).tmod 2 = 1 := by rw [Int.tmod_eq_emod_of_nonneg (by omega)]; omega
        go_wp2_with (first
          | (at_builtin; go_must (refine wpList_lit rfl _ _ 34 rfl w.heap.size 3 (.int .i64 0) 1 8 Tryd.underlying34 infoInt rfl (by decide) wr #[.int .i64 0] rfl _ k (i64s (dgs b k)) rfl hr.out.1 rfl rfl (by simp [Value.oneCell']) (by unfold maxLen; omega) (by omega) hr.out.2.size ?_); intro g2 cap2 W1 ho2 hb2 _ _ _; have HO2 : Hid (W1.ownsRow w.heap.size 3 1 (.slice (some ⟨g2, 0, none⟩) (k + 1) cap2) (k + 1) (i64s (dgs b k ++ [0])) ∧ w.grownBy W1 none) := ⟨(by simpa [i64s] using ho2), below_gb ((gb_below hr.out.2).trans hb2)⟩; clear ho2 hb2))
        obtain ⟨q, hq⟩ : ∃ q, k + 1 = 2 * q := ⟨(k + 1) / 2, by omega⟩
        obtain ⟨L, hLd⟩ : ∃ L, L = dgs b k ++ [0] := ⟨_, rfl⟩
        have HLB : Hid (∀ z ∈ L, 0 ≤ z ∧ z < 16) := by
          intro z hz
          rw [hLd] at hz
          rcases List.mem_append.1 hz with h | h
          · exact dgs_bd b k z h
          · simp at h; omega
        rw [hq, ← hLd] at HO2
        rw [← hLd] at HL
        rw [hq]
        clear hLd
        have hq1 : 1 ≤ q := by omega
        have hq2 : q ≤ 2 := by omega
        have HLL : Hid (L.length = 2 * q) := by show _ = _; have := HO2.out.1.1; simpa [i64s] using this
        have HCL : Hid (Cells W1 (some ⟨g2, 0, none⟩) (i64s L)) := by
          obtain ⟨a, cp, he, hc, _⟩ := own_cells HO2.out.1
          cases he
          exact hc
        have hg3 : g2 < W1.heap.size := by
          obtain ⟨_, _, he, _, hl⟩ := World.ownsRow.form HO2.out.1 (by omega)
          cases he
          exact hl
        clear hr hodd hp hg1 hg2 hlt hk h1 h3 hrb q1 q2 hi3 hz3 hs3 hy3 hi5 hz5 hs5 hy5
        obtain ⟨n, hn⟩ : ∃ n, n = 2 * q := ⟨_, rfl⟩
        rw [← hn] at HO2 HLL ⊢
        have HN : Hid (n = 2 * q) := hn
        go_loopw [7, 8] (fun u i wr => ∃ k : Nat, k ≤ q ∧ i = .int .i64 ((2 * k : Nat) : Int) ∧ Hid (wr.ownsRow W1.heap.size 5 1 u k (u8l ((d2b L).take k)) ∧ W1.grownBy wr none)) (fun _ i _ => n - (intOf i).toNat)
        case atStart => exact ⟨0, Nat.zero_le _, rfl, own_none _ _ _ _, gb_refl _⟩
        case round =>
          obtain ⟨j, hj, rfl, hr⟩ := hrel
          by_cases hlt : j < q
          · have HTK : Hid _ := d2b_at q L j (HLL.out.trans hn) hlt
            obtain ⟨I, hI⟩ : ∃ I, I = 2 * j := ⟨_, rfl⟩
            rw [← hI] at HTK ⊢
            have HI : Hid (I = 2 * j) := hI
            have hx0 := mem_bd L HLB.out I
            have hx1 := mem_bd L HLB.out (I + 1)
            have c0 := cells_i64 HCL.out I (by rw [HLL.out]; omega)
            have c1 := cells_i64 HCL.out (I + 1) (by rw [HLL.out]; omega)
            rw [Nat.zero_add] at c0 c1
            generalize L.getD I 0 = x0 at *
            generalize L.getD (I + 1) 0 = x1 at *
            have c0r : wr.cell? ⟨g2, I, none⟩ = some (.int .i64 x0) := ((gb_below hr.out.2).cell (p := ⟨g2, I, none⟩) hg3).trans c0
            have c1r : wr.cell? ⟨g2, I + 1, none⟩ = some (.int .i64 x1) := ((gb_below hr.out.2).cell (p := ⟨g2, I + 1, none⟩) hg3).trans c1
            have n2 : ((I : Int) + 1).toNat = I + 1 := by omega
            have i0 : (0 : Int) ≤ (I : Int) := by omega
            have i1 : (I : Int) < (n : Int) := by omega
            have i2 : (I : Int) + 1 < (n : Int) := by omega
            have i3 : (0 : Int) ≤ (I : Int) + 1 := by omega
            have i4 : (I : Int) ≤ 4 := by omega
            have w1 : IntKind.i64.wrap ((I : Int) + 1) = (I : Int) + 1 := IntWalk.i64_in _ ⟨by omega, by omega⟩
            have w2 : IntKind.i64.wrap (x0 * 16) = x0 * 16 := IntWalk.i64_in _ ⟨by omega, by omega⟩
            have w3 : IntKind.i64.wrap (x0 * 16 + x1) = x0 * 16 + x1 := IntWalk.i64_in _ ⟨by omega, by omega⟩
            have w4 : IntKind.u8.wrap (x0 * 16 + x1) = x0 * 16 + x1 := IntWalk.u8_in _ ⟨by omega, by omega⟩
            have HU : Hid (u8l ((d2b L).take (j + 1)) = u8l ((d2b L).take j) ++ [.int .u8 (x0 * 16 + x1)]) := by
              show _ = _
              rw [HTK.out, show (x0 * 16 + x1) % 256 = x0 * 16 + x1 from by omega, u8l, List.map_append]; rfl
            clear HTK hI hn hq
            go_wp2
            have hSd : wr.drew.cell? ⟨g2, I, none⟩ = some (.int .i64 x0) ∧ wr.drew.cell? ⟨g2, I + 1, none⟩ = some (.int .i64 x1) := ⟨c0r, c1r⟩
            clear c0 c1
            go_region_held3 (fun w' => w'.cell? ⟨g2, I, none⟩ = some (.int .i64 x0) ∧ w'.cell? ⟨g2, I + 1, none⟩ = some (.int .i64 x1)) (first | assumption | exact held_alloc2 (by assumption)) (first
              | (refine step_lit rfl _ _ 76 rfl W1.heap.size 5 (.int .u8 0) 1 1 Tryd.underlying76 infoByte rfl (by decide) wr #[.int .u8 (x0 * 16 + x1)] rfl _ j (u8l ((d2b L).take j)) rfl hr.out.1 rfl rfl (by simp [Value.oneCell']) (by unfold maxLen; omega) (by omega) hr.out.2.size ?_; intro g4 cap4 w4 ho4 hb4 _ _; have H4 : Hid (w4.ownsRow W1.heap.size 5 1 (.slice (some ⟨g4, 0, none⟩) (j + 1) cap4) (j + 1) (u8l ((d2b L).take (j + 1))) ∧ W1.grownBy w4 none) := ⟨(by rw [HU.out]; exact ho4), below_gb ((gb_below hr.out.2).trans hb4)⟩; have hS4 : w4.cell? ⟨g2, I, none⟩ = some (.int .i64 x0) ∧ w4.cell? ⟨g2, I + 1, none⟩ = some (.int .i64 x1) := ⟨(hb4.cell (p := ⟨g2, I, none⟩) hg3).trans c0r, (hb4.cell (p := ⟨g2, I + 1, none⟩) hg3).trans c1r⟩; clear ho4 hb4))
            go_wp2
            go_roundw
            case rel => exact ⟨j + 1, by omega, by have h := HI.out; rw [show ((2 * (j + 1) : Nat) : Int) = (I : Int) + 2 from by omega], H4⟩
            case measure => simp only [intOf]; omega
          · obtain rfl : j = q := by omega
            obtain ⟨h, cap3, rfl, _, hh2⟩ := World.ownsRow.form hr.out.1 (by omega)
            have HLN : Hid ((d2b L).length = j) := d2b_len j L (HLL.out.trans hn)
            have HBY : Hid (Cells wr (some ⟨h, 0, none⟩) (u8l (d2b L))) := by
              obtain ⟨a, cp, he, hc, _⟩ := own_cells hr.out.1
              cases he
              rw [List.take_of_length_le (by rw [HLN.out]; exact Nat.le_refl _)] at hc
              exact hc
            have hcp : j ≤ cap3 := by
              obtain ⟨a, cp, he, _, hc, _⟩ := own_cells hr.out.1
              cases he
              exact hc
            have hcm : cap3 ≤ maxLen := by
              obtain ⟨a, cp, he, _, _, _, hc⟩ := own_cells hr.out.1
              cases he
              rcases hc with hc | ⟨_, _, _, _, hc⟩
              · cases hc
              · exact hc
            have HGR : Hid (w.grownBy wr none) := gb_trans HO2.out.2 hr.out.2
            have HB : Hid (Bytes (d2b L)) := d2b_bytes L
            have HTT : Hid (T = strOfNums ((d2b L).take (trimN (d2b L) 0 j))) := by show _ = _; rw [HL.out, trimS_str _ HB.out, HLN.out]
            generalize d2b L = U at *
            have hle : ((2 * j : Nat) : Int) = (n : Int) := by omega
            rw [hle]
            clear hn hq hr hlt hj HN HLL HL HCL HO2 HLB hle
            go_wp2
            go_loop [7] (fun v => ∃ m : Nat, m ≤ j ∧ v = .slice (some ⟨h, 0, none⟩) m cap3 ∧ Hid (trimN U 0 m = trimN U 0 j)) (fun v => (match v with | .slice _ n _ => n | _ => 0))
            case atStart => exact ⟨j, Nat.le_refl _, rfl, rfl⟩
            case round =>
              obtain ⟨m, hm, rfl, ht⟩ := hrel
              have HSG : ∀ m, m ≤ j → (convert 76 9 (.slice (some ⟨h, 0, none⟩) m cap3)).run Tryd.prog wr = .ok (.string (strOfNums (U.take m))) wr := fun m hm => by
                have h1 := cells_seg HBY.out
                have h2 : Seg .u8 wr (some ⟨h, 0, none⟩) m (U.take m) := by
                  refine ⟨by rw [List.length_take, HLN.out]; omega, ?_⟩
                  rcases h1.2 with h0 | ⟨b', o', e', l', c'⟩
                  · left; rw [HLN.out] at h0; omega
                  · refine .inr ⟨b', o', e', l', fun i hi => ?_⟩
                    rw [c' i (by rw [HLN.out]; omega), List.getElem?_take_of_lt hi]
                exact seg_string 76 9 5 cap3 h2 Tryd.underlying76 Tryd.underlying5 Tryd.underlying9
              cases m with
              | zero =>
                have hs1 := HSG 0 (by omega)
                have HT2 : Hid (T = strOfNums (U.take 0)) := by show _ = _; rw [HTT.out, ← ht.out]; rfl
                clear ht HTT HSG
                generalize strOfNums (U.take 0) = X at *
                go_wp2
                go_ret
                exact ⟨by rw [HT2.out]; rfl, HGR.out⟩
              | succ m =>
                have hc : wr.cell? ⟨h, m, none⟩ = some (.int .u8 (U.getD m 0)) := by
                  rcases HBY.out with h0 | ⟨b', o', e', l', c'⟩
                  · have e : (u8l U).length = 0 := by rw [h0]; rfl
                    rw [u8l, List.length_map, HLN.out] at e; omega
                  · cases e'
                    have := c' m (.int .u8 (U.getD m 0)) (by have : m < U.length := by (rw [HLN.out]; omega)
                                                             simp [u8l, this])
                    rwa [Nat.zero_add] at this
                have hs1 := HSG (m + 1) (by omega)
                have htn : trimN U 0 (m + 1) = if U.getD m 0 = 0 then trimN U 0 m else m + 1 := rfl
                clear HSG
                by_cases hy : U.getD m 0 = 0
                · rw [hy] at hc
                  rw [if_pos hy] at htn
                  have ht2 : Hid (trimN U 0 m = trimN U 0 j) := htn.symm.trans ht.out
                  clear htn ht hs1 hy
                  go_wp2
                  go_round
                  case rel => exact ⟨m, by omega, rfl, ht2⟩
                  case measure => simp
                · rw [if_neg hy] at htn
                  have HT2 : Hid (T = strOfNums (U.take (m + 1))) := by show _ = _; rw [HTT.out, ← ht.out, htn]
                  clear ht HTT htn
                  generalize strOfNums (U.take (m + 1)) = X at *
                  generalize U.getD m 0 = y at *
                  go_wp2
                  go_ret
                  exact ⟨by rw [HT2.out]; rfl, HGR.out⟩
      · rw [if_neg hodd] at HL
        have hp : (k : Int).tmod 2 = 0 := by rw [Int.tmod_eq_emod_of_nonneg (by omega)]; omega
        obtain ⟨W1, rfl⟩ : ∃ W1, W1 = wr := ⟨_, rfl⟩
        obtain ⟨g2, rfl⟩ : ∃ g2, g2 = g := ⟨_, rfl⟩
        obtain ⟨cap2, rfl⟩ : ∃ cap2, cap2 = cap := ⟨_, rfl⟩
        go_wp2
        obtain ⟨q, hq⟩ : ∃ q, k = 2 * q := ⟨k / 2, by omega⟩
        obtain ⟨L, hLd⟩ : ∃ L, L = dgs b k := ⟨_, rfl⟩
        have HLB : Hid (∀ z ∈ L, 0 ≤ z ∧ z < 16) := by
          intro z hz
          rw [hLd] at hz
          exact dgs_bd b k z hz
        have HO2 : Hid (W1.ownsRow w.heap.size 3 1 (.slice (some ⟨g2, 0, none⟩) (2 * q) cap2) (2 * q) (i64s L) ∧ w.grownBy W1 none) := by rw [hLd, ← hq]; exact hr
        rw [← hLd] at HL
        have hsl : (Value.slice (some ⟨g2, 0, none⟩) k cap2) = .slice (some ⟨g2, 0, none⟩) (2 * q) cap2 := by rw [hq]
        rw [hsl]
        clear hLd hsl
        have hq1 : 1 ≤ q := by omega
        have hq2 : q ≤ 2 := by omega
        have HLL : Hid (L.length = 2 * q) := by show _ = _; have := HO2.out.1.1; simpa [i64s] using this
        have HCL : Hid (Cells W1 (some ⟨g2, 0, none⟩) (i64s L)) := by
          obtain ⟨a, cp, he, hc, _⟩ := own_cells HO2.out.1
          cases he
          exact hc
        have hg3 : g2 < W1.heap.size := by
          obtain ⟨_, _, he, _, hl⟩ := World.ownsRow.form HO2.out.1 (by omega)
          cases he
          exact hl
        clear hr hodd hp hg1 hg2 hlt hk h1 h3 hrb q1 q2 hi3 hz3 hs3 hy3 hi5 hz5 hs5 hy5
        obtain ⟨n, hn⟩ : ∃ n, n = 2 * q := ⟨_, rfl⟩
        rw [← hn] at HO2 HLL ⊢
        have HN : Hid (n = 2 * q) := hn
        go_loopw [7, 8] (fun u i wr => ∃ k : Nat, k ≤ q ∧ i = .int .i64 ((2 * k : Nat) : Int) ∧ Hid (wr.ownsRow W1.heap.size 5 1 u k (u8l ((d2b L).take k)) ∧ W1.grownBy wr none)) (fun _ i _ => n - (intOf i).toNat)
        case atStart => exact ⟨0, Nat.zero_le _, rfl, own_none _ _ _ _, gb_refl _⟩
        case round =>
          obtain ⟨j, hj, rfl, hr⟩ := hrel
          by_cases hlt : j < q
          · have HTK : Hid _ := d2b_at q L j (HLL.out.trans hn) hlt
            obtain ⟨I, hI⟩ : ∃ I, I = 2 * j := ⟨_, rfl⟩
            rw [← hI] at HTK ⊢
            have HI : Hid (I = 2 * j) := hI
            have hx0 := mem_bd L HLB.out I
            have hx1 := mem_bd L HLB.out (I + 1)
            have c0 := cells_i64 HCL.out I (by rw [HLL.out]; omega)
            have c1 := cells_i64 HCL.out (I + 1) (by rw [HLL.out]; omega)
            rw [Nat.zero_add] at c0 c1
            generalize L.getD I 0 = x0 at *
            generalize L.getD (I + 1) 0 = x1 at *
            have c0r : wr.cell? ⟨g2, I, none⟩ = some (.int .i64 x0) := ((gb_below hr.out.2).cell (p := ⟨g2, I, none⟩) hg3).trans c0
            have c1r : wr.cell? ⟨g2, I + 1, none⟩ = some (.int .i64 x1) := ((gb_below hr.out.2).cell (p := ⟨g2, I + 1, none⟩) hg3).trans c1
            have n2 : ((I : Int) + 1).toNat = I + 1 := by omega
            have i0 : (0 : Int) ≤ (I : Int) := by omega
            have i1 : (I : Int) < (n : Int) := by omega
            have i2 : (I : Int) + 1 < (n : Int) := by omega
            have i3 : (0 : Int) ≤ (I : Int) + 1 := by omega
            have i4 : (I : Int) ≤ 4 := by omega
            have w1 : IntKind.i64.wrap ((I : Int) + 1) = (I : Int) + 1 := IntWalk.i64_in _ ⟨by omega, by omega⟩
            have w2 : IntKind.i64.wrap (x0 * 16) = x0 * 16 := IntWalk.i64_in _ ⟨by omega, by omega⟩
            have w3 : IntKind.i64.wrap (x0 * 16 + x1) = x0 * 16 + x1 := IntWalk.i64_in _ ⟨by omega, by omega⟩
            have w4 : IntKind.u8.wrap (x0 * 16 + x1) = x0 * 16 + x1 := IntWalk.u8_in _ ⟨by omega, by omega⟩
            have HU : Hid (u8l ((d2b L).take (j + 1)) = u8l ((d2b L).take j) ++ [.int .u8 (x0 * 16 + x1)]) := by
              show _ = _
              rw [HTK.out, show (x0 * 16 + x1) % 256 = x0 * 16 + x1 from by omega, u8l, List.map_append]; rfl
            clear HTK hI hn hq
            go_wp2
            have hSd : wr.drew.cell? ⟨g2, I, none⟩ = some (.int .i64 x0) ∧ wr.drew.cell? ⟨g2, I + 1, none⟩ = some (.int .i64 x1) := ⟨c0r, c1r⟩
            clear c0 c1
            go_region_held3 (fun w' => w'.cell? ⟨g2, I, none⟩ = some (.int .i64 x0) ∧ w'.cell? ⟨g2, I + 1, none⟩ = some (.int .i64 x1)) (first | assumption | exact held_alloc2 (by assumption)) (first
              | (refine step_lit rfl _ _ 76 rfl W1.heap.size 5 (.int .u8 0) 1 1 Tryd.underlying76 infoByte rfl (by decide) wr #[.int .u8 (x0 * 16 + x1)] rfl _ j (u8l ((d2b L).take j)) rfl hr.out.1 rfl rfl (by simp [Value.oneCell']) (by unfold maxLen; omega) (by omega) hr.out.2.size ?_; intro g4 cap4 w4 ho4 hb4 _ _; have H4 : Hid (w4.ownsRow W1.heap.size 5 1 (.slice (some ⟨g4, 0, none⟩) (j + 1) cap4) (j + 1) (u8l ((d2b L).take (j + 1))) ∧ W1.grownBy w4 none) := ⟨(by rw [HU.out]; exact ho4), below_gb ((gb_below hr.out.2).trans hb4)⟩; have hS4 : w4.cell? ⟨g2, I, none⟩ = some (.int .i64 x0) ∧ w4.cell? ⟨g2, I + 1, none⟩ = some (.int .i64 x1) := ⟨(hb4.cell (p := ⟨g2, I, none⟩) hg3).trans c0r, (hb4.cell (p := ⟨g2, I + 1, none⟩) hg3).trans c1r⟩; clear ho4 hb4))
            go_wp2
            go_roundw
            case rel => exact ⟨j + 1, by omega, by have h := HI.out; rw [show ((2 * (j + 1) : Nat) : Int) = (I : Int) + 2 from by omega], H4⟩
            case measure => simp only [intOf]; omega
          · obtain rfl : j = q := by omega
            obtain ⟨h, cap3, rfl, _, hh2⟩ := World.ownsRow.form hr.out.1 (by omega)
            have HLN : Hid ((d2b L).length = j) := d2b_len j L (HLL.out.trans hn)
            have HBY : Hid (Cells wr (some ⟨h, 0, none⟩) (u8l (d2b L))) := by
              obtain ⟨a, cp, he, hc, _⟩ := own_cells hr.out.1
              cases he
              rw [List.take_of_length_le (by rw [HLN.out]; exact Nat.le_refl _)] at hc
              exact hc
            have hcp : j ≤ cap3 := by
              obtain ⟨a, cp, he, _, hc, _⟩ := own_cells hr.out.1
              cases he
              exact hc
            have hcm : cap3 ≤ maxLen := by
              obtain ⟨a, cp, he, _, _, _, hc⟩ := own_cells hr.out.1
              cases he
              rcases hc with hc | ⟨_, _, _, _, hc⟩
              · cases hc
              · exact hc
            have HGR : Hid (w.grownBy wr none) := gb_trans HO2.out.2 hr.out.2
            have HB : Hid (Bytes (d2b L)) := d2b_bytes L
            have HTT : Hid (T = strOfNums ((d2b L).take (trimN (d2b L) 0 j))) := by show _ = _; rw [HL.out, trimS_str _ HB.out, HLN.out]
            generalize d2b L = U at *
            have hle : ((2 * j : Nat) : Int) = (n : Int) := by omega
            rw [hle]
            clear hn hq hr hlt hj HN HLL HL HCL HO2 HLB hle
            go_wp2
            go_loop [7] (fun v => ∃ m : Nat, m ≤ j ∧ v = .slice (some ⟨h, 0, none⟩) m cap3 ∧ Hid (trimN U 0 m = trimN U 0 j)) (fun v => (match v with | .slice _ n _ => n | _ => 0))
            case atStart => exact ⟨j, Nat.le_refl _, rfl, rfl⟩
            case round =>
              obtain ⟨m, hm, rfl, ht⟩ := hrel
              have HSG : ∀ m, m ≤ j → (convert 76 9 (.slice (some ⟨h, 0, none⟩) m cap3)).run Tryd.prog wr = .ok (.string (strOfNums (U.take m))) wr := fun m hm => by
                have h1 := cells_seg HBY.out
                have h2 : Seg .u8 wr (some ⟨h, 0, none⟩) m (U.take m) := by
                  refine ⟨by rw [List.length_take, HLN.out]; omega, ?_⟩
                  rcases h1.2 with h0 | ⟨b', o', e', l', c'⟩
                  · left; rw [HLN.out] at h0; omega
                  · refine .inr ⟨b', o', e', l', fun i hi => ?_⟩
                    rw [c' i (by rw [HLN.out]; omega), List.getElem?_take_of_lt hi]
                exact seg_string 76 9 5 cap3 h2 Tryd.underlying76 Tryd.underlying5 Tryd.underlying9
              cases m with
              | zero =>
                have hs1 := HSG 0 (by omega)
                have HT2 : Hid (T = strOfNums (U.take 0)) := by show _ = _; rw [HTT.out, ← ht.out]; rfl
                clear ht HTT HSG
                generalize strOfNums (U.take 0) = X at *
                go_wp2
                go_ret
                exact ⟨by rw [HT2.out]; rfl, HGR.out⟩
              | succ m =>
                have hc : wr.cell? ⟨h, m, none⟩ = some (.int .u8 (U.getD m 0)) := by
                  rcases HBY.out with h0 | ⟨b', o', e', l', c'⟩
                  · have e : (u8l U).length = 0 := by rw [h0]; rfl
                    rw [u8l, List.length_map, HLN.out] at e; omega
                  · cases e'
                    have := c' m (.int .u8 (U.getD m 0)) (by have : m < U.length := by (rw [HLN.out]; omega)
                                                             simp [u8l, this])
                    rwa [Nat.zero_add] at this
                have hs1 := HSG (m + 1) (by omega)
                have htn : trimN U 0 (m + 1) = if U.getD m 0 = 0 then trimN U 0 m else m + 1 := rfl
                clear HSG
                by_cases hy : U.getD m 0 = 0
                · rw [hy] at hc
                  rw [if_pos hy] at htn
                  have ht2 : Hid (trimN U 0 m = trimN U 0 j) := htn.symm.trans ht.out
                  clear htn ht hs1 hy
                  go_wp2
                  go_round
                  case rel => exact ⟨m, by omega, rfl, ht2⟩
                  case measure => simp
                · rw [if_neg hy] at htn
                  have HT2 : Hid (T = strOfNums (U.take (m + 1))) := by show _ = _; rw [HTT.out, ← ht.out, htn]
                  clear ht HTT htn
                  generalize strOfNums (U.take (m + 1)) = X at *
                  generalize U.getD m 0 = y at *
                  go_wp2
                  go_ret
                  exact ⟨by rw [HT2.out]; rfl, HGR.out⟩
end Go.Proofs.YtdjcokepeifojaaDoor
