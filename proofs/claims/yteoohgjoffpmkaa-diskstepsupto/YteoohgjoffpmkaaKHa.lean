/-
  What the law's has answers: whether a file is among some. Condition: at most 2^63 files.
-/
import Derived.Test.YteoohgjoffpmkaaKPq
namespace Go.Proofs.Yteoohgjoffpmkaa
open Go.RowKit
set_option linter.unusedVariables false

theorem memT {α : Type} {A : List α} {k : Nat} {x y : α} (ha : A[k]? = some y) (h : x ∉ A.take k) (hne : y ≠ x) : x ∉ A.take (k + 1) := by
  rw [List.take_add_one, ha]
  intro hm
  rcases List.mem_append.1 hm with q | q
  · exact h q
  · simp at q; exact hne q.symm
set_option maxRecDepth 20000 in
set_option maxHeartbeats 1000000 in
theorem has_c (A : List FiM) (s2 : ByteArray) (ys2 : List Int) (va : Option Addr) (vc : Nat) (a : Option Addr) (ca : Nat) (w : World) (hA : RFi w a A) (hB : Seg .u8 w va ys2.length ys2) (hn : A.length ≤ 9223372036854775807) :
    Calls Try.prog 26 #[.slice a A.length ca, .agg #[.string s2, .slice va ys2.length vc]] w fun e w' => (∃ T : Bool, e = .returned (.bool T) ∧ (T = true ↔ (s2, strOfNums ys2) ∈ A.map FiM.g)) ∧ Below w.heap.size w w' := by
  have HA : Hid (RFi w a A) := hA
  obtain ⟨n, hna⟩ : ∃ n, n = A.length := ⟨_, rfl⟩
  rw [← hna] at hn ⊢
  have HN : Hid (n = A.length) := hna
  obtain ⟨i2, hi2⟩ : ∃ i2, i2 = ys2.length := ⟨_, rfl⟩
  rw [← hi2] at hB ⊢
  have HB : Hid (Seg .u8 w va i2 ys2) := hB
  obtain ⟨Y2, hY2⟩ : ∃ Y2, Y2 = strOfNums ys2 := ⟨_, rfl⟩
  rw [← hY2]
  obtain ⟨T, hT⟩ : ∃ T : Bool, T = true ↔ (s2, Y2) ∈ A.map FiM.g := by
    by_cases h : (s2, Y2) ∈ A.map FiM.g
    · exact ⟨true, by simp [h]⟩
    · exact ⟨false, by simp [h]⟩
  have HT : Hid (T = true ↔ (s2, Y2) ∈ A.map FiM.g) := hT
  have HY2 : Hid (Y2 = strOfNums ys2) := hY2
  obtain ⟨N, hN⟩ : ∃ N, N = w.heap.size := ⟨_, rfl⟩
  have HBX : Hid (∀ W, Below w.heap.size w W → ∀ cs T, W.heap[w.heap.size]? = some (.cells cs T) → True) := fun _ _ _ _ _ => trivial
  clear hA hna hB hi2 hY2 hT
  obtain ⟨W0, hW0⟩ : ∃ W0, W0 = w.alloc (.cells #[.string s2, .slice va i2 vc] 59) := ⟨_, rfl⟩
  have H0 : Hid (Bk 59 W0 w.heap.size #[.string s2, .slice va i2 vc] ∧ Below w.heap.size w W0) := by rw [hW0]; exact ⟨(blk_new w _ _).1, (Below.refl _ _).alloc (Nat.le_refl _) _⟩
  go_enter Try.func26, Try.ntmps26
  go_wp2
  rw [← hW0]
  clear hW0 HBX hN
  go_loopw [5] (fun i wr => ∃ k : Nat, k ≤ n ∧ i = .int .i64 k ∧ Hid ((s2, Y2) ∉ (A.map FiM.g).take k) ∧ Hid (Below w.heap.size w wr ∧ Bk 59 wr w.heap.size #[.string s2, .slice va i2 vc])) (fun i _ => n - (intOf i).toNat)
  case atStart => exact ⟨0, Nat.zero_le _, rfl, (by show _ ∉ List.take 0 _; simp), H0.out.2, H0.out.1⟩
  case round =>
    obtain ⟨k, hk, rfl, ht, hr⟩ := hrel
    clear H0
    by_cases hlt : k < n
    · obtain ⟨f, hf⟩ : ∃ f, A[k]? = some f := ⟨_, List.getElem?_eq_getElem (by have := HN.out; omega)⟩
      obtain ⟨ba, oa, ua, uc, hab, hba, c0, c1, hu, hsg, hby⟩ := HA.out k f hf
      have hfg : (A.map FiM.g)[k]? = some f.g := by rw [List.getElem?_map, hf]; rfl
      have HNE : Hid (f.g ≠ (s2, Y2) → (s2, Y2) ∉ (A.map FiM.g).take (k + 1)) := fun hne => memT hfg ht.out hne
      have HEQ : Hid (f.g = (s2, Y2) → T = true) := fun e => HT.out.2 (e ▸ List.mem_of_getElem? hfg)
      obtain ⟨s, ys, u⟩ := f
      simp only at hu c0 c1 hsg hby
      subst hu
      obtain ⟨j, hj⟩ : ∃ j, j = ys.length := ⟨_, rfl⟩
      rw [← hj] at c1 hsg
      replace HNE : Hid ((s, strOfNums ys) ≠ (s2, Y2) → (s2, Y2) ∉ (A.map FiM.g).take (k + 1)) := HNE
      replace HEQ : Hid ((s, strOfNums ys) = (s2, Y2) → T = true) := HEQ
      have HKP : Hid (∀ W, Below w.heap.size w W → Bk 59 W w.heap.size #[.string s2, .slice va i2 vc] → W.cell? ⟨ba, oa + k * 2, none⟩ = some (.string s) ∧ W.cell? ⟨ba, oa + k * 2 + 1, none⟩ = some (.slice ua j uc) ∧ W.cell? ⟨w.heap.size, 0, none⟩ = some (.string s2) ∧ W.cell? ⟨w.heap.size, 1, none⟩ = some (.slice va i2 vc) ∧ (convert 57 9 (.slice ua j uc)).run Try.prog W = .ok (.string (strOfNums ys)) W ∧ (convert 57 9 (.slice va i2 vc)).run Try.prog W = .ok (.string Y2) W) := fun W hW hK =>
        ⟨(hW.cell (p := ⟨ba, oa + k * 2, none⟩) hba).trans c0, (hW.cell (p := ⟨ba, oa + k * 2 + 1, none⟩) hba).trans c1, Bk.cell hK 0, Bk.cell hK 1, seg_string (P := Try.prog) 57 9 5 uc (hsg.below hW) Try.underlying57 Try.underlying5 Try.underlying9, by rw [HY2.out]; exact seg_string (P := Try.prog) 57 9 5 vc (HB.out.below hW) Try.underlying57 Try.underlying5 Try.underlying9⟩
      clear hj hsg hby hf hfg c0 c1
      generalize strOfNums ys = Y at *
      have i1 : (0 : Int) ≤ (k : Int) := by omega
      have i3 : (k : Int) < (n : Int) := by omega
      have HAB : Hid _ := hab
      rw [hab]
      clear hab
      have HDR : Hid (Below w.heap.size w wr.drew ∧ Bk 59 wr.drew w.heap.size #[.string s2, .slice va i2 vc]) := ⟨hr.out.1.drew, hr.out.2⟩
      have hSd := HKP.out wr.drew HDR.out.1 HDR.out.2
      by_cases hs : s = s2
      · subst hs
        by_cases hu : Y = Y2
        · subst hu
          have HTT : Hid (T = true) := HEQ.out rfl
          clear HEQ HNE
          go_wp2
          go_region_held3 (fun W => W.cell? ⟨ba, oa + k * 2, none⟩ = some (.string s) ∧ W.cell? ⟨ba, oa + k * 2 + 1, none⟩ = some (.slice ua j uc) ∧ W.cell? ⟨w.heap.size, 0, none⟩ = some (.string s) ∧ W.cell? ⟨w.heap.size, 1, none⟩ = some (.slice va i2 vc) ∧ (convert 57 9 (.slice ua j uc)).run Try.prog W = .ok (.string Y) W ∧ (convert 57 9 (.slice va i2 vc)).run Try.prog W = .ok (.string Y) W) (first | assumption) (fail)
          all_goals (go_wp2; go_ret; exact ⟨⟨true, rfl, by have h9 := HT.out; rw [HTT.out] at h9; exact h9⟩, HDR.out.1⟩)
        · have HTN : Hid ((s, Y2) ∉ (A.map FiM.g).take (k + 1)) := HNE.out (fun e => hu (congrArg Prod.snd e))
          have q1 : (Y.toList == Y2.toList) = false := by rw [te_iffK]; simp [hu]
          have q2 : ¬ Y.toList = Y2.toList := ne_toListK hu
          clear HEQ HNE
          go_wp2
          go_region_held3 (fun W => W.cell? ⟨ba, oa + k * 2, none⟩ = some (.string s) ∧ W.cell? ⟨ba, oa + k * 2 + 1, none⟩ = some (.slice ua j uc) ∧ W.cell? ⟨w.heap.size, 0, none⟩ = some (.string s) ∧ W.cell? ⟨w.heap.size, 1, none⟩ = some (.slice va i2 vc) ∧ (convert 57 9 (.slice ua j uc)).run Try.prog W = .ok (.string Y) W ∧ (convert 57 9 (.slice va i2 vc)).run Try.prog W = .ok (.string Y2) W) (first | assumption) (fail)
          all_goals
            go_wp2
            try rw [← HAB.out]
            go_roundw
            case rel => exact ⟨k + 1, by omega, by simp, HTN, HDR.out⟩
            case measure => simp [intOf]; omega
      · have HTN : Hid ((s2, Y2) ∉ (A.map FiM.g).take (k + 1)) := HNE.out (fun e => hs (congrArg Prod.fst e))
        have q1 : (s.toList == s2.toList) = false := by rw [te_iffK]; simp [hs]
        have q2 : ¬ s.toList = s2.toList := ne_toListK hs
        obtain ⟨c0, c1, e0, e1, _⟩ := HKP.out wr hr.out.1 hr.out.2
        clear HEQ HNE hSd
        go_wp2
        go_quiet (fail)
        go_wp2
        try rw [← HAB.out]
        go_roundw
        case rel => exact ⟨k + 1, by omega, by simp, HTN, ⟨hr.out.1.os, hr.out.1.tape, hr.out.1.output, hr.out.1.size, hr.out.1.block⟩, hr.out.2⟩
        case measure => simp [intOf]; omega
    · obtain rfl : k = n := by omega
      have HTF : Hid (¬ (s2, Y2) ∈ A.map FiM.g) := by
        show ¬ _
        intro h
        refine ht.out ?_
        rw [List.take_of_length_le (by rw [List.length_map]; have := HN.out; omega)]
        exact h
      go_wp2
      go_ret
      exact ⟨⟨false, rfl, by simp [HTF.out]⟩, hr.out.1⟩
/-- Is a file among some? -/
theorem has_fil {S T : Nat → Prop} {W : World} {v u : Value} {A B : List FiM} {f : FiM} (hA : FiL S W v A) (hB : FiL T W u B) (hf : f ∈ B) (hn : A.length ≤ 67108864) :
    Calls Try.prog 26 #[v, .agg #[.string f.s, f.u]] W fun e w' => (∃ T : Bool, e = .returned (.bool T) ∧ (T = true ↔ f.p ∈ A.map FiM.p)) ∧ Below W.heap.size W w' := by
  obtain ⟨a, ca, rfl, ra, _⟩ := hA.read
  obtain ⟨ua, uc, q1, q2, q3, _⟩ := (hB.body f hf).1.1.seg
  rw [q1]
  refine Calls.mono (has_c A f.s f.ys ua uc a ca W ra q2 (by omega)) ?_
  rintro e w' ⟨⟨T, rfl, hT⟩, k⟩
  refine ⟨⟨T, rfl, hT.trans ?_⟩, k⟩
  have e : ((f.s, strOfNums f.ys) ∈ A.map FiM.g) ↔ f.p ∈ A.map FiM.p := by
    constructor
    · intro h
      obtain ⟨x, hx, he⟩ := List.mem_map.1 h
      refine List.mem_map.2 ⟨x, hx, ?_⟩
      have h1 : x.s = f.s := congrArg Prod.fst he
      have h2 : strOfNums x.ys = strOfNums f.ys := congrArg Prod.snd he
      have h3 := strOfNums_inj (hA.body x hx).2 (hB.body f hf).2 h2
      show (x.s, x.ys) = (f.s, f.ys)
      rw [h1, h3]
    · intro h
      obtain ⟨x, hx, he⟩ := List.mem_map.1 h
      have h1 : x.s = f.s := congrArg Prod.fst he
      have h2 : x.ys = f.ys := congrArg Prod.snd he
      exact List.mem_map.2 ⟨x, hx, by show (x.s, strOfNums x.ys) = _; rw [h1, h2]⟩
  exact e
end Go.Proofs.Yteoohgjoffpmkaa
