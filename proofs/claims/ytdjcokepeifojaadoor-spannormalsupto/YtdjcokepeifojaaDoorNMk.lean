/-
  What the document's marks answers of whatever ranges: all their ends and the empty text, rising, each once. Condition: both lists together have at most 2^40 ranges.
-/
import Derived.Test.YtdjcokepeifojaaDoorNSt
import Derived.Test.YtdjcokepeifojaaDoorNLv
import Derived.Test.YtdjcokepeifojaaDoorNHp
import Derived.BigQuiet
namespace Go.Proofs.YtdjcokepeifojaaDoor
set_option linter.unusedVariables false
open Go.RowKit

/-- The ends of a list. -/
def enS (A : List Rg) : List ByteArray := A.flatMap fun r => [r.1, r.2]
theorem flS_ens (A : List Rg) : flS (enS A) = flR A := by
  induction A with
  | nil => rfl
  | cons r A ih => rw [enS, List.flatMap_cons, flS_app, ← enS, ih]; rfl
theorem enS_len (A : List Rg) : (enS A).length = A.length * 2 := by rw [← flS_len, flS_ens, flR_len]
theorem enS_take {A : List Rg} {k : Nat} (h : k < A.length) : enS (A.take (k + 1)) = enS (A.take k) ++ [(A.getD k (.empty, .empty)).1, (A.getD k (.empty, .empty)).2] := by
  rw [List.take_succ_eq_append_getElem h]
  have e : A.getD k (.empty, .empty) = A[k] := by simp [h]
  rw [e]; unfold enS; rw [List.flatMap_append]; rfl
theorem ends_of {ms ls : List ByteArray} (h : ∀ x, x ∈ ms ↔ x ∈ ls) {A : List Rg} (k : ∀ x ∈ enS A, x ∈ ls) : Ends ms A := fun r hr =>
  ⟨(h _).2 (k _ (List.mem_flatMap.2 ⟨r, hr, by simp⟩)), (h _).2 (k _ (List.mem_flatMap.2 ⟨r, hr, by simp⟩))⟩
theorem two_one' (a b : ByteArray) : ∀ u ∈ (#[Value.string a, Value.string b] : Array Value).toList, u.oneCell' = true := fun u hu => by
  simp at hu; rcases hu with rfl | rfl <;> rfl
theorem one_one' (a : ByteArray) : ∀ u ∈ (#[Value.string a] : Array Value).toList, u.oneCell' = true := fun u hu => by
  simp at hu; subst hu; rfl
set_option maxRecDepth 20000 in
set_option maxHeartbeats 4000000 in
theorem gmarks_c (A B : List Rg) (a b : Option Addr) (ca cb : Nat) (w : World) (hA : Cells w a (flR A)) (hB : Cells w b (flR B)) (hn : A.length + B.length ≤ 1099511627776) :
    Calls Tryd.prog 35 #[.slice a A.length ca, .slice b B.length cb] w fun e w' => ∃ g c ms, e = .returned (.slice (some ⟨g, 0, none⟩) ms.length c) ∧ Cells w' (some ⟨g, 0, none⟩) (flS ms) ∧ Ris ms ∧ 0 < ms.length ∧ mk ms 0 = .empty ∧ Ends ms A ∧ Ends ms B ∧ ms.length ≤ 2 * (A.length + B.length) + 1 ∧ w.grownBy w' none := by
  have HA : Hid (Cells w a (flR A)) := hA
  have HB : Hid (Cells w b (flR B)) := hB
  obtain ⟨n, hna⟩ : ∃ n, n = A.length := ⟨_, rfl⟩
  obtain ⟨m, hmb⟩ : ∃ m, m = B.length := ⟨_, rfl⟩
  rw [← hna, ← hmb] at hn ⊢
  have HN : Hid (n = A.length) := hna
  have HM : Hid (m = B.length) := hmb
  clear hA hB hna hmb
  have HL0 : Hid _ := own_lit w 9 1 1 #[.string .empty] rfl (by decide)
  have HW0 : Hid (w.grownBy (w.alloc (.cells #[.string .empty] 9)) none) := gb_alloc _ _
  go_enter Tryd.func35, Tryd.ntmps35
  go_wp2
  go_loopw [5, 6] (fun v i wr => ∃ k q : Nat, k ≤ n ∧ i = .int .i64 k ∧ Hid (q = 2 * k + 1) ∧ Hid (wr.ownsRow w.heap.size 9 1 v q (flS (.empty :: enS (A.take k))) ∧ w.grownBy wr none)) (fun _ i _ => n - (intOf i).toNat)
  case atStart => exact ⟨0, 1, Nat.zero_le _, rfl, rfl, HL0.out, HW0.out⟩
  case round =>
    obtain ⟨k, q, hk, rfl, hq, hr⟩ := hrel
    by_cases hlt : k < n
    · obtain ⟨ba, oa, hab, hba, c0, c1⟩ := cells_rg HA.out k (by have := HN.out; omega)
      have HTK : Hid (flS (.empty :: enS (A.take (k + 1))) = flS (.empty :: enS (A.take k)) ++ (#[.string (A.getD k (.empty, .empty)).1, .string (A.getD k (.empty, .empty)).2] : Array Value).toList) := by
        show _ = _
        rw [enS_take (by have := HN.out; omega), ← List.cons_append, flS_app]; rfl
      generalize A.getD k (.empty, .empty) = r at *
      obtain ⟨f, u⟩ := r
      have c0r : wr.cell? ⟨ba, oa + k * 2, none⟩ = some (.string f) := ((gb_below hr.out.2).cell (p := ⟨ba, oa + k * 2, none⟩) hba).trans c0
      have c1r : wr.cell? ⟨ba, oa + k * 2 + 1, none⟩ = some (.string u) := ((gb_below hr.out.2).cell (p := ⟨ba, oa + k * 2 + 1, none⟩) hba).trans c1
      have i1 : (0 : Int) ≤ (k : Int) := by omega
      have i2 : (k : Int) < (n : Int) := by omega
      have HAB : Hid _ := hab
      rw [hab]
      clear c0 c1 hab
      go_wp2
      have hSd : wr.drew.cell? ⟨ba, oa + k * 2, none⟩ = some (.string f) ∧ wr.drew.cell? ⟨ba, oa + k * 2 + 1, none⟩ = some (.string u) := ⟨c0r, c1r⟩
      go_region_held3 (fun w' => w'.cell? ⟨ba, oa + k * 2, none⟩ = some (.string f) ∧ w'.cell? ⟨ba, oa + k * 2 + 1, none⟩ = some (.string u)) (first | assumption | exact held_alloc2 (by assumption)) (first
        | (refine step_litN rfl _ _ 62 rfl w.heap.size 9 _ 1 16 2 (by decide) Tryd.underlying62 infoTxt rfl (by decide) wr #[.string f, .string u] rfl _ q (flS (.empty :: enS (A.take k))) rfl hr.out.1 rfl rfl (two_one' _ _) (by have := hq.out; unfold maxLen; omega) (by have := hq.out; omega) hr.out.2.size ?_; intro g4 cap4 w4 ho4 hb4; have H4 : Hid (w4.ownsRow w.heap.size 9 1 (.slice (some ⟨g4, 0, none⟩) (q + 2) cap4) (q + 2) (flS (.empty :: enS (A.take (k + 1)))) ∧ w.grownBy w4 none) := ⟨(by rw [HTK.out]; exact ho4), below_gb ((gb_below hr.out.2).trans hb4)⟩; have hS4 : w4.cell? ⟨ba, oa + k * 2, none⟩ = some (.string f) ∧ w4.cell? ⟨ba, oa + k * 2 + 1, none⟩ = some (.string u) := ⟨(hb4.cell (p := ⟨ba, oa + k * 2, none⟩) hba).trans c0r, (hb4.cell (p := ⟨ba, oa + k * 2 + 1, none⟩) hba).trans c1r⟩; clear ho4 hb4))
      go_wp2
      exact ⟨⟨k + 1, q + 2, by omega, by simp, by have := hq.out; show _ = _; omega, H4⟩, by simp [intOf]; omega⟩
    · obtain rfl : k = n := by omega
      have H1 : Hid (wr.ownsRow w.heap.size 9 1 u5 q (flS ((.empty :: enS A) ++ enS (B.take 0))) ∧ w.grownBy wr none) := by
        have := hr.out
        rw [List.take_of_length_le (by have := HN.out; omega)] at this
        show _ ∧ _
        simpa [enS] using this
      clear hr HL0 HW0
      obtain ⟨W1, rfl⟩ : ∃ W1, W1 = wr := ⟨_, rfl⟩
      have HQ : Hid (q = 2 * k + 1) := hq
      clear hq
      go_wp2
      go_loopw [5, 7] (fun v i wr => ∃ j q2 : Nat, j ≤ m ∧ i = .int .i64 j ∧ Hid (q2 = 2 * (k + j) + 1) ∧ Hid (wr.ownsRow w.heap.size 9 1 v q2 (flS ((.empty :: enS A) ++ enS (B.take j))) ∧ w.grownBy wr none)) (fun _ i _ => m - (intOf i).toNat)
      case atStart => exact ⟨0, q, Nat.zero_le _, rfl, HQ, H1⟩
      case round =>
        obtain ⟨j, q2, hj, rfl, hq2, hr⟩ := hrel
        clear H1
        by_cases hlt : j < m
        · obtain ⟨ba, oa, hab, hba, c0, c1⟩ := cells_rg HB.out j (by have := HM.out; omega)
          have HTK : Hid (flS ((.empty :: enS A) ++ enS (B.take (j + 1))) = flS ((.empty :: enS A) ++ enS (B.take j)) ++ (#[.string (B.getD j (.empty, .empty)).1, .string (B.getD j (.empty, .empty)).2] : Array Value).toList) := by
            show _ = _
            rw [enS_take (by have := HM.out; omega), ← List.append_assoc, flS_app]; rfl
          generalize B.getD j (.empty, .empty) = r at *
          obtain ⟨f, u⟩ := r
          have c0r : wr.cell? ⟨ba, oa + j * 2, none⟩ = some (.string f) := ((gb_below hr.out.2).cell (p := ⟨ba, oa + j * 2, none⟩) hba).trans c0
          have c1r : wr.cell? ⟨ba, oa + j * 2 + 1, none⟩ = some (.string u) := ((gb_below hr.out.2).cell (p := ⟨ba, oa + j * 2 + 1, none⟩) hba).trans c1
          have i1 : (0 : Int) ≤ (j : Int) := by omega
          have i2 : (j : Int) < (m : Int) := by omega
          have HAB : Hid _ := hab
          rw [hab]
          clear c0 c1 hab
          go_wp2
          have hSd : wr.drew.cell? ⟨ba, oa + j * 2, none⟩ = some (.string f) ∧ wr.drew.cell? ⟨ba, oa + j * 2 + 1, none⟩ = some (.string u) := ⟨c0r, c1r⟩
          go_region_held3 (fun w' => w'.cell? ⟨ba, oa + j * 2, none⟩ = some (.string f) ∧ w'.cell? ⟨ba, oa + j * 2 + 1, none⟩ = some (.string u)) (first | assumption | exact held_alloc2 (by assumption)) (first
            | (refine step_litN rfl _ _ 62 rfl w.heap.size 9 _ 1 16 2 (by decide) Tryd.underlying62 infoTxt rfl (by decide) wr #[.string f, .string u] rfl _ q2 (flS ((.empty :: enS A) ++ enS (B.take j))) rfl hr.out.1 rfl rfl (two_one' _ _) (by have := hq2.out; unfold maxLen; omega) (by have := hq2.out; omega) hr.out.2.size ?_; intro g4 cap4 w4 ho4 hb4; have H4 : Hid (w4.ownsRow w.heap.size 9 1 (.slice (some ⟨g4, 0, none⟩) (q2 + 2) cap4) (q2 + 2) (flS ((.empty :: enS A) ++ enS (B.take (j + 1)))) ∧ w.grownBy w4 none) := ⟨(by rw [HTK.out]; exact ho4), below_gb ((gb_below hr.out.2).trans hb4)⟩; have hS4 : w4.cell? ⟨ba, oa + j * 2, none⟩ = some (.string f) ∧ w4.cell? ⟨ba, oa + j * 2 + 1, none⟩ = some (.string u) := ⟨(hb4.cell (p := ⟨ba, oa + j * 2, none⟩) hba).trans c0r, (hb4.cell (p := ⟨ba, oa + j * 2 + 1, none⟩) hba).trans c1r⟩; clear ho4 hb4))
          go_wp2
          exact ⟨⟨j + 1, q2 + 2, by omega, by simp, by have := hq2.out; show _ = _; omega, H4⟩, by simp [intOf]; omega⟩
        · obtain rfl : j = m := by omega
          obtain ⟨ls, hls⟩ : ∃ ls, ls = (ByteArray.empty :: enS A) ++ enS B := ⟨_, rfl⟩
          have HLS : Hid (ls = (ByteArray.empty :: enS A) ++ enS B) := hls
          have hlen : ls.length = q2 := by
            have h1 := HN.out; have h2 := HM.out; have h3 := hq2.out
            rw [hls, List.length_append, List.length_cons, enS_len, enS_len]; omega
          have H1 : wr.ownsRow w.heap.size 9 1 u5 ls.length (flS ls) ∧ w.grownBy wr none := by
            have := hr.out
            rw [List.take_of_length_le (by have := HM.out; omega), ← hls] at this
            rw [hlen]; exact this
          rw [hlen] at H1
          obtain ⟨g, cap, rfl, hg1, hg2⟩ := World.ownsRow.form H1.1 (by have := hq2.out; omega)
          have HSO : Hid _ := sortS_c w.heap.size g cap ls wr (by rw [hlen]; exact H1.1) (by have := hq2.out; omega)
          rw [hlen] at HSO
          have HLN : Hid (ls.length = q2) := hlen
          have HG1 : Hid (w.grownBy wr none ∧ w.heap.size ≤ g) := ⟨H1.2, hg1⟩
          have HQ2 : Hid (q2 = 2 * (k + j) + 1) := hq2
          clear hr H1 hls hlen hg1 hg2 hq2
          obtain ⟨W2, rfl⟩ : ∃ W2, W2 = wr := ⟨_, rfl⟩
          go_wp2_with (first
            | (go_at_call 44; go_must (refine (Calls.mono HSO.out ?_)); rintro e w3 ⟨rfl, ls', hp, hs, ho, hg⟩; have H3 : Hid (ls.Perm ls' ∧ Srts ls' ∧ ls'.length = q2 ∧ Cells w3 (some ⟨g, 0, none⟩) (flS ls') ∧ w.grownBy w3 none) := ⟨hp, hs, by rw [← hp.length_eq]; exact HLN.out, (by obtain ⟨x, c, he, hc, _⟩ := own_cells ho; cases he; exact hc), gb_newer HG1.out.1 hg HG1.out.2⟩; clear hp hs ho hg))
          clear HSO HG1
          go_loopw [8, 9] (fun v i wr => ∃ k : Nat, ∃ ms, k ≤ q2 ∧ i = .int .i64 k ∧ Hid (DI ls' k ms ∧ wr.ownsRow w3.heap.size 9 1 v ms.length (flS ms) ∧ w3.grownBy wr none)) (fun _ i _ => q2 - (intOf i).toNat)
          case atStart => exact ⟨0, [], Nat.zero_le _, rfl, di_none _, own_none _ _ _ _, gb_refl _⟩
          case round =>
            obtain ⟨i, ms, hi, rfl, hr⟩ := hrel
            by_cases hlt : i < q2
            · have hlt' : i < ls'.length := by have := H3.out.2.2.1; omega
              obtain ⟨bx, ox, hab, -, -⟩ := cells_str H3.out.2.2.2.1 i hlt'
              cases hab
              have HC : Hid (∀ i, i < ls'.length → wr.cell? ⟨g, i, none⟩ = some (.string (mk ls' i))) := fun i hi => by
                obtain ⟨b, off, ha, hb, hc⟩ := cells_str (H3.out.2.2.2.1.gb hr.out.2.2) i hi
                cases ha
                rw [Nat.zero_add] at hc; exact hc
              have cI := HC.out i hlt'
              have HD := hr.out.1
              have HDI : Hid (DI ls' i ms) := HD
              have HSS : Hid (i = 0 ∨ mk ls' i ≠ mk ls' (i - 1) → DI ls' (i + 1) (ms ++ [mk ls' i])) := fun h => di_more H3.out.2.1 HDI.out hlt' h
              have HSK : Hid (0 < i → mk ls' i = mk ls' (i - 1) → DI ls' (i + 1) ms) := fun h0 h => di_skip H3.out.2.1 HDI.out hlt' h0 h
              have HFT : Hid (flS (ms ++ [mk ls' i]) = flS ms ++ (#[Value.string (mk ls' i)] : Array Value).toList) := flS_app _ _
              have HLM : Hid (ms.length ≤ q2) := by have := HD.len; show _ ≤ _; omega
              obtain ⟨p, hp⟩ : ∃ p, p = ms.length := ⟨_, rfl⟩
              have HP : Hid (p = ms.length) := hp
              have HO : Hid (wr.ownsRow w3.heap.size 9 1 u8 p (flS ms) ∧ w3.grownBy wr none) := by rw [hp]; exact hr.out.2
              have i1 : (0 : Int) ≤ (i : Int) := by omega
              have i2 : (i : Int) < (q2 : Int) := by omega
              have hlm := HLM.out
              rw [← hp] at hlm
              have HQB := HQ2.out
              have hq2b : q2 ≤ 2199023255553 := by omega
              clear HD hr hp HQB HLM
              rcases (show i = 0 ∨ 0 < i by omega) with rfl | hi0
              · generalize mk ls' 0 = x at *
                have HDN : Hid (DI ls' (0 + 1) (ms ++ [x])) := HSS.out (.inl rfl)
                clear HSS HSK
                go_wp2
                go_quiet (fail)
                generalize hW5 : World.drewN wr _ = W5
                have cI5 : W5.cell? ⟨g, 0, none⟩ = some (.string x) := by rw [← hW5]; exact cI
                have HO5 : Hid (W5.ownsRow w3.heap.size 9 1 u8 p (flS ms) ∧ w3.grownBy W5 none) := by rw [← hW5]; exact ⟨own_gb HO.out.1 (gb_drewN (gb_refl _) _), gb_drewN HO.out.2 _⟩
                clear hW5
                go_wp2_with (first
                  | (at_builtin; go_must (refine wpList_lit rfl _ _ 62 rfl w3.heap.size 9 _ 1 16 Tryd.underlying62 infoTxt rfl (by decide) W5 #[.string x] rfl _ p (flS ms) rfl HO5.out.1 rfl rfl (one_one' _) (by unfold maxLen; omega) (by omega) HO5.out.2.size ?_); intro g6 cap6 w6 ho6 hb6 _ _ _; have H6 : Hid (w6.ownsRow w3.heap.size 9 1 (.slice (some ⟨g6, 0, none⟩) (p + 1) cap6) (p + 1) (flS (ms ++ [x])) ∧ w3.grownBy w6 none) := ⟨(by rw [HFT.out]; exact ho6), below_gb ((gb_below HO5.out.2).trans hb6)⟩; clear ho6 hb6))
                exact ⟨⟨1, ms ++ [x], by omega, by simp, HDN.out, by rw [List.length_append, ← HP.out]; exact H6.out.1, H6.out.2⟩, by simp [intOf]; omega⟩
              · obtain ⟨j, hj⟩ : ∃ j, j = i - 1 := ⟨_, rfl⟩
                have cJ := HC.out j (by omega)
                rw [← hj] at HSS HSK
                have e1 : IntKind.i64.wrap ((i : Int) - 1) = (j : Int) := (IntWalk.i64_in _ ⟨by omega, by omega⟩).trans (by omega)
                have e2 : wrap64 ((i : Int) - 1) = (j : Int) := (IntWalk.wrap64_in _ ⟨by omega, by omega⟩).trans (by omega)
                have e3 : (0 : Int) ≤ (j : Int) := by omega
                have e4 : (j : Int) < (q2 : Int) := by omega
                have e5 : ((i : Int) == 0) = false := by rw [beq_eq_false_iff_ne]; omega
                have e6 : ¬ (i : Int) = 0 := by omega
                have HI0 : Hid (0 < i) := hi0
                clear HC hj hi0
                generalize mk ls' i = x at *
                generalize mk ls' j = y at *
                by_cases hxy : x = y
                · subst hxy
                  have HDN : Hid (DI ls' (i + 1) ms) := HSK.out HI0.out rfl
                  clear HSS HSK
                  go_wp2
                  go_quiet (fail)
                  generalize hW5 : World.drewN wr _ = W5
                  have HO5 : Hid (W5.ownsRow w3.heap.size 9 1 u8 p (flS ms) ∧ w3.grownBy W5 none) := by rw [← hW5]; exact ⟨own_gb HO.out.1 (gb_drewN (gb_refl _) _), gb_drewN HO.out.2 _⟩
                  clear hW5
                  go_wp2
                  exact ⟨⟨i + 1, ms, by omega, by simp, HDN.out, by rw [← HP.out]; exact HO5.out.1, HO5.out.2⟩, by simp [intOf]; omega⟩
                · have q1 : (x.toList == y.toList) = false := by rw [te_iff]; simp [hxy]
                  have q3 : ¬ x.toList = y.toList := fun e => hxy (toList_inj e)
                  have HDN : Hid (DI ls' (i + 1) (ms ++ [x])) := HSS.out (.inr hxy)
                  clear HSS HSK hxy
                  go_wp2
                  go_quiet (fail)
                  generalize hW5 : World.drewN wr _ = W5
                  have cI5 : W5.cell? ⟨g, i, none⟩ = some (.string x) := by rw [← hW5]; exact cI
                  have HO5 : Hid (W5.ownsRow w3.heap.size 9 1 u8 p (flS ms) ∧ w3.grownBy W5 none) := by rw [← hW5]; exact ⟨own_gb HO.out.1 (gb_drewN (gb_refl _) _), gb_drewN HO.out.2 _⟩
                  clear hW5
                  go_wp2_with (first
                    | (at_builtin; go_must (refine wpList_lit rfl _ _ 62 rfl w3.heap.size 9 _ 1 16 Tryd.underlying62 infoTxt rfl (by decide) W5 #[.string x] rfl _ p (flS ms) rfl HO5.out.1 rfl rfl (one_one' _) (by unfold maxLen; omega) (by omega) HO5.out.2.size ?_); intro g6 cap6 w6 ho6 hb6 _ _ _; have H6 : Hid (w6.ownsRow w3.heap.size 9 1 (.slice (some ⟨g6, 0, none⟩) (p + 1) cap6) (p + 1) (flS (ms ++ [x])) ∧ w3.grownBy w6 none) := ⟨(by rw [HFT.out]; exact ho6), below_gb ((gb_below HO5.out.2).trans hb6)⟩; clear ho6 hb6))
                  exact ⟨⟨i + 1, ms ++ [x], by omega, by simp, HDN.out, by rw [List.length_append, ← HP.out]; exact H6.out.1, H6.out.2⟩, by simp [intOf]; omega⟩
            · obtain rfl : i = q2 := by omega
              obtain ⟨hp, hs, hl, -, hg⟩ := H3.out
              have hd := hr.out.1
              rw [← hl] at hd
              have hmem : ∀ x, x ∈ ls' ↔ x = .empty ∨ x ∈ enS A ∨ x ∈ enS B := fun x => by
                rw [← hp.mem_iff, HLS.out, List.mem_append, List.mem_cons, or_assoc]
              obtain ⟨k1, k2, k3, k4⟩ := di_done hs hd ((hmem _).2 (.inl rfl))
              obtain ⟨g9, c9, rfl, hg91, hg92⟩ := World.ownsRow.form hr.out.2.1 k3
              have hcell : Cells wr (some ⟨g9, 0, none⟩) (flS ms) := by
                obtain ⟨x, c, he, hc, _⟩ := own_cells hr.out.2.1
                cases he; exact hc
              have HF : Hid (Cells wr (some ⟨g9, 0, none⟩) (flS ms) ∧ Ris ms ∧ 0 < ms.length ∧ mk ms 0 = .empty ∧ Ends ms A ∧ Ends ms B ∧ ms.length ≤ 2 * (k + j) + 1 ∧ w.grownBy wr none) :=
                ⟨hcell, k1, k3, k4, ends_of k2 (fun x hx => (hmem x).2 (.inr (.inl hx))), ends_of k2 (fun x hx => (hmem x).2 (.inr (.inr hx))), by have := hr.out.1.len; have := HQ2.out; omega, gb_trans hg hr.out.2.2⟩
              clear hr hp hs hl hg hd hmem k1 k2 k3 k4 hcell hg91 hg92
              obtain ⟨p, hp⟩ : ∃ p, p = ms.length := ⟨_, rfl⟩
              rw [← hp]
              have HP : Hid (p = ms.length) := hp
              clear hp
              go_wp2
              go_ret
              exact ⟨g9, c9, ms, congrArg (fun n => Ending.returned (.slice (some ⟨g9, 0, none⟩) n c9)) HP.out, HF.out⟩
end Go.Proofs.YtdjcokepeifojaaDoor
