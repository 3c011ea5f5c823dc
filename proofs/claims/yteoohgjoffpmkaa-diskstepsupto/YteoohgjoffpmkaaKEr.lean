/-
  What the law's same and equal answer of files: whether they are the same. Condition: at most 2^40 files.
-/
import Derived.Test.YteoohgjoffpmkaaKEq
namespace Go.Proofs.Yteoohgjoffpmkaa
open Go.RowKit
set_option linter.unusedVariables false

theorem take_eqK {α : Type} {A B : List α} {k : Nat} {x y : α} (ha : A[k]? = some x) (hb : B[k]? = some y) (h : A.take k = B.take k) : A.take (k + 1) = B.take (k + 1) ↔ x = y := by
  rw [List.take_add_one, List.take_add_one, ha, hb, h, List.append_cancel_left_eq]
  exact ⟨fun h => by injection h, fun h => by rw [h]⟩
theorem eq_castK (n m : Nat) : ((n : Int) == (m : Int)) = decide (n = m) := by
  by_cases h : n = m
  · subst h; simp
  · have : ¬ (n : Int) = m := by omega
    simp [h, this]
theorem te_iffK {a b : ByteArray} : (a.toList == b.toList) = decide (a = b) := by
  by_cases h : a = b
  · subst h; simp
  · rw [decide_eq_false h]
    have : ¬ a.toList = b.toList := fun e => h (ByteArray.ext (Array.toList_inj.1 (by rwa [ByteArray.toList_eq, ByteArray.toList_eq] at e)))
    simp [this]
theorem ne_toListK {a b : ByteArray} (h : a ≠ b) : ¬ a.toList = b.toList := fun e => h (ByteArray.ext (Array.toList_inj.1 (by rwa [ByteArray.toList_eq, ByteArray.toList_eq] at e)))
set_option maxRecDepth 20000 in
set_option maxHeartbeats 1000000 in
theorem same_c (A : List FiM) (B : List (ByteArray × ByteArray)) (a b : Option Addr) (ca cb : Nat) (w : World) (hA : RFi w a A) (hB : RGi w b B) (hn : A.length ≤ 9223372036854775807) (hn2 : B.length ≤ 9223372036854775807) :
    Calls Try.prog 46 #[.slice a A.length ca, .slice b B.length cb] w fun e w' => e = .returned (.bool (decide (A.map FiM.g = B))) ∧ Below w.heap.size w w' := by
  have HA : Hid (RFi w a A) := hA
  have HB : Hid (RGi w b B) := hB
  obtain ⟨n, hna⟩ : ∃ n, n = A.length := ⟨_, rfl⟩
  obtain ⟨m, hmb⟩ : ∃ m, m = B.length := ⟨_, rfl⟩
  rw [← hna] at hn ⊢
  rw [← hmb] at hn2 ⊢
  have HN : Hid (n = A.length) := hna
  have HM : Hid (m = B.length) := hmb
  obtain ⟨T, hT⟩ : ∃ T, T = decide (A.map FiM.g = B) := ⟨_, rfl⟩
  rw [← hT]
  have HT : Hid (T = decide (A.map FiM.g = B)) := hT
  clear hA hna hB hmb hT
  go_enter Try.func46, Try.ntmps46
  go_wp2
  go_loopw [5] (fun i wr => ∃ k : Nat, k ≤ n ∧ k ≤ m ∧ i = .int .i64 k ∧ Hid ((A.map FiM.g).take k = B.take k) ∧ Hid (Below w.heap.size w wr)) (fun i _ => n - (intOf i).toNat)
  case atStart => exact ⟨0, Nat.zero_le _, Nat.zero_le _, rfl, rfl, Below.refl _ _⟩
  case round =>
    obtain ⟨k, hk, hk2, rfl, ht, hr⟩ := hrel
    by_cases hlt : k < n ∧ k < m
    · obtain ⟨f, hf⟩ : ∃ f, A[k]? = some f := ⟨_, List.getElem?_eq_getElem (by have := HN.out; omega)⟩
      obtain ⟨q, hq⟩ : ∃ q, B[k]? = some q := ⟨_, List.getElem?_eq_getElem (by have := HM.out; omega)⟩
      obtain ⟨ba, oa, ua, uc, hab, hba, c0, c1, hu, hsg, hby⟩ := HA.out k f hf
      obtain ⟨bb, ob, hbb, hbb2, e0, e1⟩ := HB.out k q hq
      have HTE : Hid ((A.map FiM.g).take (k + 1) = B.take (k + 1) ↔ f.g = q) := take_eqK (by rw [List.getElem?_map, hf]; rfl) hq ht.out
      obtain ⟨s, ys, u⟩ := f
      obtain ⟨s2, Y2⟩ := q
      simp only at hu c0 c1 hsg hby e0 e1
      subst hu
      obtain ⟨j, hj⟩ : ∃ j, j = ys.length := ⟨_, rfl⟩
      rw [← hj] at c1 hsg
      replace HTE : Hid ((A.map FiM.g).take (k + 1) = B.take (k + 1) ↔ (s, strOfNums ys) = (s2, Y2)) := HTE
      have HKP : Hid (∀ W, Below w.heap.size w W → W.cell? ⟨ba, oa + k * 2, none⟩ = some (.string s) ∧ W.cell? ⟨ba, oa + k * 2 + 1, none⟩ = some (.slice ua j uc) ∧ W.cell? ⟨bb, ob + k * 2, none⟩ = some (.string s2) ∧ W.cell? ⟨bb, ob + k * 2 + 1, none⟩ = some (.string Y2) ∧ (convert 57 9 (.slice ua j uc)).run Try.prog W = .ok (.string (strOfNums ys)) W) := fun W hW =>
        ⟨(hW.cell (p := ⟨ba, oa + k * 2, none⟩) hba).trans c0, (hW.cell (p := ⟨ba, oa + k * 2 + 1, none⟩) hba).trans c1, (hW.cell (p := ⟨bb, ob + k * 2, none⟩) hbb2).trans e0, (hW.cell (p := ⟨bb, ob + k * 2 + 1, none⟩) hbb2).trans e1, seg_string (P := Try.prog) 57 9 5 uc (hsg.below hW) Try.underlying57 Try.underlying5 Try.underlying9⟩
      clear hj hsg hby hf hq c0 c1 e0 e1
      generalize strOfNums ys = Y at *
      have i1 : (0 : Int) ≤ (k : Int) := by omega
      have i2 : (k : Int) < (n : Int) := by omega
      have i3 : (k : Int) < (m : Int) := by omega
      have HAB : Hid _ := hab
      have HBB : Hid _ := hbb
      rw [hab, hbb]
      clear hab hbb
      have hlt1 := hlt.1
      have hlt2 := hlt.2
      clear hlt
      have hSd := HKP.out wr.drew hr.out.drew
      by_cases hs : s = s2
      · subst hs
        by_cases hu : Y = Y2
        · subst hu
          have HTN : Hid ((A.map FiM.g).take (k + 1) = B.take (k + 1)) := HTE.out.2 rfl
          clear HTE
          go_wp2
          go_region_held3 (fun W => W.cell? ⟨ba, oa + k * 2, none⟩ = some (.string s) ∧ W.cell? ⟨ba, oa + k * 2 + 1, none⟩ = some (.slice ua j uc) ∧ W.cell? ⟨bb, ob + k * 2, none⟩ = some (.string s) ∧ W.cell? ⟨bb, ob + k * 2 + 1, none⟩ = some (.string Y) ∧ (convert 57 9 (.slice ua j uc)).run Try.prog W = .ok (.string Y) W) (first | assumption | exact HKP.out _ (Below.drew hr.out)) (fail)
          go_wp2
          try rw [← HAB.out, ← HBB.out]
          go_roundw
          case rel => exact ⟨k + 1, by omega, by omega, by simp, HTN, hr.out.drew⟩
          case measure => simp [intOf]; omega
        · have HTF : Hid (T = false) := by
            show _ = _
            rw [HT.out]
            exact decide_eq_false fun e => by
              rw [e] at HTE
              exact hu (congrArg Prod.snd (HTE.out.1 rfl))
          have q1 : (Y.toList == Y2.toList) = false := by rw [te_iffK]; simp [hu]
          have q2 : ¬ Y.toList = Y2.toList := ne_toListK hu
          clear HTE
          go_wp2
          go_region_held3 (fun W => W.cell? ⟨ba, oa + k * 2, none⟩ = some (.string s) ∧ W.cell? ⟨ba, oa + k * 2 + 1, none⟩ = some (.slice ua j uc) ∧ W.cell? ⟨bb, ob + k * 2, none⟩ = some (.string s) ∧ W.cell? ⟨bb, ob + k * 2 + 1, none⟩ = some (.string Y2) ∧ (convert 57 9 (.slice ua j uc)).run Try.prog W = .ok (.string Y) W) (first | assumption | exact HKP.out _ (Below.drew hr.out)) (fail)
          go_wp2
          go_ret
          exact ⟨by rw [HTF.out]; rfl, hr.out.drew⟩
      · have HTF : Hid (T = false) := by
          show _ = _
          rw [HT.out]
          exact decide_eq_false fun e => by
            rw [e] at HTE
            exact hs (congrArg Prod.fst (HTE.out.1 rfl))
        have q1 : (s.toList == s2.toList) = false := by rw [te_iffK]; simp [hs]
        have q2 : ¬ s.toList = s2.toList := ne_toListK hs
        obtain ⟨c0, c1, e0, e1, _⟩ := HKP.out wr hr.out
        clear HTE hSd
        go_wp2
        go_quiet (fail)
        go_wp2
        go_ret
        exact ⟨by rw [HTF.out]; rfl, ⟨hr.out.os, hr.out.tape, hr.out.output, hr.out.size, hr.out.block⟩⟩
    · have HTF : Hid (T = decide (n = m)) := by
        show _ = _
        rw [HT.out]
        have h1 := HN.out
        have h2 := HM.out
        have h4 : (A.map FiM.g).length = n := by rw [List.length_map, h1]
        by_cases e : n = m
        · have : k = n := by omega
          have h3 := ht.out
          rw [List.take_of_length_le (by omega), List.take_of_length_le (by omega)] at h3
          simp [h3, e]
        · rw [decide_eq_false e]
          exact decide_eq_false fun h => e (by rw [← h4, h2, h])
      rcases (show ¬ k < n ∨ (k < n ∧ ¬ k < m) by omega) with h1 | ⟨h1, h2⟩
      · go_wp2
        go_ret
        exact ⟨by rw [HTF.out, ← eq_castK]; rfl, hr.out⟩
      · go_wp2
        go_ret
        exact ⟨by rw [HTF.out, ← eq_castK]; rfl, hr.out⟩
theorem g_inj {A B : List FiM} (hA : ∀ f ∈ A, Bytes f.ys) (hB : ∀ f ∈ B, Bytes f.ys) : A.map FiM.g = B.map FiM.g ↔ A.map FiM.p = B.map FiM.p := by
  induction A generalizing B with
  | nil => cases B <;> simp
  | cons x A ih =>
    cases B with
    | nil => simp
    | cons y B =>
      simp only [List.map_cons, List.cons.injEq]
      rw [ih (fun f hf => hA f (List.mem_cons_of_mem _ hf)) (fun f hf => hB f (List.mem_cons_of_mem _ hf))]
      refine and_congr_left fun _ => ?_
      simp only [FiM.g, FiM.p, Prod.mk.injEq]
      refine and_congr_right fun _ => ?_
      exact ⟨fun e => strOfNums_inj (hA x (List.mem_cons_self ..)) (hB y (List.mem_cons_self ..)) e, fun e => by rw [e]⟩
/-- Are two lists of files the same? -/
theorem equal_c (A B : List FiM) (a b : Option Addr) (ca cb : Nat) (w : World) (hA : RFi w a A) (hB : RFi w b B) (hn : A.length ≤ 1099511627776) (hn2 : B.length ≤ 1099511627776) (hbA : ∀ f ∈ A, Bytes f.ys) (hbB : ∀ f ∈ B, Bytes f.ys) :
    Calls Try.prog 21 #[.slice a A.length ca, .slice b B.length cb] w fun e w' => e = .returned (.bool (decide (A.map FiM.p = B.map FiM.p))) ∧ Below w.heap.size w w' := by
  have HP : Hid _ := plain_c B b cb w hB hn2
  have HA : Hid (RFi w a A) := hA
  have HSA : Hid (∀ (w : World) (v : Option Addr) (c : Nat), RFi w a A → RGi w v (B.map FiM.g) → Calls Try.prog 46 #[.slice a A.length ca, .slice v B.length c] w fun e w' => e = .returned (.bool (decide (A.map FiM.p = B.map FiM.p))) ∧ Below w.heap.size w w') := fun w v c h1 h2 => by
    have := same_c A (B.map FiM.g) a v ca c w h1 h2 (by omega) (by rw [List.length_map]; omega)
    rw [List.length_map, show decide (A.map FiM.g = B.map FiM.g) = decide (A.map FiM.p = B.map FiM.p) from decide_eq_decide.2 (g_inj hbA hbB)] at this
    exact this
  generalize decide (A.map FiM.p = B.map FiM.p) = T at *
  clear hA hB hbA hbB
  go_enter Try.func21, Try.ntmps21
  go_wp2_with (first
    | (go_at_call 34; go_must (refine (Calls.mono HP.out ?_)); rintro e w1 ⟨v, rfl, ho, hg⟩; rw [← List.length_map (f := FiM.g)] at ho; obtain ⟨x, cx, rfl, hc⟩ := own_rgi ho; rw [List.length_map]; have H1 : Hid (RGi w1 x (B.map FiM.g) ∧ Below w.heap.size w w1) := ⟨hc, hg⟩; clear ho hc hg)
    | (go_at_call 46; go_must (refine (HSA.out w1 x cx (HA.out.below H1.out.2) H1.out.1).mono ?_); rintro e w2 ⟨rfl, h2⟩))
  go_ret
  exact ⟨rfl, H1.out.2.trans (h2.mono H1.out.2.size)⟩
end Go.Proofs.Yteoohgjoffpmkaa
