/-
  What the Opener's takeMark and takeSum answer: whether the part is whole, or a panic where it is wrong. Condition: a list that can be read.
-/
import Derived.Test.YtcdgfghcmeadgaaDoorFd
import Derived.Test.YtcdgfghcmeadgaaDoorIWb
namespace Go.Proofs.YtcdgfghcmeadgaaDoor
open Go.RowKit
set_option linter.unusedVariables false

theorem ph_fnP {P : Program} {ops : Array Oper} {o : Oper} {A : Act} {W : World} {K : Act → World → Prop} {Q : Exit → Act → World → Prop} {E : Prop} (g : FuncId) (args : Array Operand) (ty : Array TypeId) (ho : o.op = .call { callee := .value (.func g), args := args, argTypes := ty }) (hwt : Region.wanted o (yielded ops A.tmps) = true) (vs : Array Value) (hv : args.map A.eval = vs) (hc : (callFunc g vs).run P W = .ok (.enter g vs) W)
    (h : Calls P g vs W fun e W' => ∃ c, e = .panicked c ∧ Q (.panic c) A W') : if Region.wanted o (yielded ops A.tmps) = true then Oper.wp P o A W K Q else E := by
  refine ph_sem rfl hwt (r := .ok (.enter g vs) W) (by
    have e1 : A.eval (.func g) = .func (.func g) #[] #[] := rfl
    simp [execOp, ho, resolve, Deferred.ofValue, invoke, e1, hv, hc]) ?_
  refine Calls.mono h ?_
  rintro e W' ⟨c, rfl, hk⟩
  exact hk
def mark0 : ByteArray := ⟨#[104, 119, 105, 49]⟩
theorem mark0_take : ∀ k, k ≤ 4 → mark0.extract 0 k = strOfNums (mark4.take k) := by
  intro k hk
  match k, hk with
  | 0, _ => decide +kernel
  | 1, _ => decide +kernel
  | 2, _ => decide +kernel
  | 3, _ => decide +kernel
  | 4, _ => decide +kernel
theorem bytes_mark (k : Nat) : Bytes (mark4.take k) := bytes_takeO (by unfold Bytes mark4; decide) k
theorem mark0_eq {xs : List Int} (hx : Bytes xs) (k : Nat) (hk : k ≤ 4) : ((strOfNums (xs.take k)).toList == (mark0.extract 0 k).toList) = decide (xs.take k = mark4.take k) := by
  rw [mark0_take k hk]
  by_cases hq : xs.take k = mark4.take k
  · rw [hq]; simp
  · rw [decide_eq_false hq]
    exact neq_list (fun z => hq (strOfNums_inj (bytes_takeO hx k) (bytes_mark k) z))
set_option maxRecDepth 20000 in
set_option maxHeartbeats 1000000 in
theorem omark_w (g : Nat) (o : Opn) (a : Option Addr) (n c : Nat) (xs : List Int) (w : World) (h : OpB w g o) (hx : Seg .u8 w a n xs) (hb : Bytes xs) (hnc : n ≤ c) (hn : n < 4) (hm : decide (xs.take n = mark4.take n) = true) :
    Calls Tryd.prog 122 #[.pointer (some ⟨g, 0, none⟩), .slice a n c] w fun r w' => r = .returned (.tuple #[.int .i64 0, .bool false]) ∧ w.grownBy w' none := by
  have HSL : Hid (∀ W, (Instr.slice 27 (.slice a n c) none (some (.int .i64 (n : Int))) none).run Tryd.prog W = .ok (.slice a n c) W) := slice_hI a n c n (n : Int) rfl (by omega)
  have HCV : Hid (∀ W, w.grownBy W none → (convert 27 9 (.slice a n c)).run Tryd.prog W = .ok (.string (strOfNums (xs.take n))) W) := fun W hg => seg_string (P := Tryd.prog) 27 9 5 c ((seg_takeO hx n (by omega)).grew hg (by simp)) Tryd.underlying27 Tryd.underlying5 Tryd.underlying9
  have HMS : Hid (∀ W, (Instr.slice 9 (.string mark0) none (some (.int .i64 (n : Int))) none).run Tryd.prog W = .ok (.string (mark0.extract 0 n)) W) := fun W => by
    have := run_slice_string_h (P := Tryd.prog) (w := W) (t := 9) (s := mark0) (ht := Tryd.underlying9) .i64 (n : Int) (by omega) (by show ((n : Int) : Int) ≤ 4; omega)
    simpa using this
  have HEQ : Hid (((strOfNums (xs.take n)).toList == (mark0.extract 0 n).toList) = true) := by rw [mark0_eq hb n (by omega)]; exact hm
  have HO : Hid (∀ W, w.grownBy W none → OpB W g o) := fun W hg => opb_gb h hg
  generalize strOfNums (xs.take n) = S at HCV HEQ
  generalize hM : mark0.extract 0 n = M at HMS HEQ
  unfold mark0 at HMS
  clear h hx hb hm hM
  have hlt2 : (n : Int) < 4 := by omega
  have hle2 : (n : Int) ≤ 4 := by omega
  go_enter Tryd.func122, Tryd.ntmps122
  go_wp2_with fail
  refine wp_region_lastR (fun a b => World.grownBy a b none) (fun _ _ _ h k => gb_trans h k) ⟨rfl, rfl, rfl, Nat.le_refl _, fun _ _ _ => rfl⟩ 8 rfl (by kernel_rfl) [10, 11, 12, 13, 14, 15, 16, 17, 18] [[], [], [], [1, 2], [3], [], [5], [4, 6], [0, 7]] (by kernel_rfl) (by kernel_rfl) [fun u W => u = .pointer (some ⟨g, 0, none⟩), fun u W => u = .slice a n c, fun u W => u = .int .i64 (n : Int), fun u W => u = .slice a n c, fun u W => u = .string S, fun u W => u = .int .i64 (n : Int), fun u W => u = .string M, fun u W => u = .bool true] ?stable ?step ?last
  case stable =>
    intro i v W W' h hg
    match i, h with
    | 0, h => exact h
    | 1, h => exact h
    | 2, h => exact h
    | 3, h => exact h
    | 4, h => exact h
    | 5, h => exact h
    | 6, h => exact h
    | 7, h => exact h
    | i + 8, h => exact trivial
  case step =>
    intro f W A hA hg i o hin ho hu K hK
    match i, hin, ho, hu, hK with
    | 0, hin, ho, hu, hK =>
      cases ho
      have e0 : A.eval (.tmp 0) = .pointer (some ⟨g, 0, none⟩) := ev_out hA 0 rfl
      exact ph_move _ rfl rfl (.pointer (some ⟨g, 0, none⟩)) e0 (hK _ _ (gb_rr W _) rfl)
    | 1, hin, ho, hu, hK =>
      cases ho
      have e1 : A.eval (.tmp 1) = .slice a n c := ev_out hA 1 rfl
      exact ph_move _ rfl rfl (.slice a n c) e1 (hK _ _ (gb_rr W _) rfl)
    | 2, hin, ho, hu, hK =>
      cases ho
      have e6 : A.eval (.tmp 6) = .int .i64 (n : Int) := ev_out hA 6 rfl
      exact ph_move _ rfl rfl (.int .i64 (n : Int)) e6 (hK _ _ (gb_rr W _) rfl)
    | 3, hin, ho, hu, hK =>
      cases ho
      have e11 : A.eval (.tmp 11) = .slice a n c := (ev_in hA 11 1 rfl rfl rfl).trans (show f 1 = .slice a n c from hu 1 (by decide))
      have e12 : A.eval (.tmp 12) = .int .i64 (n : Int) := (ev_in hA 12 2 rfl rfl rfl).trans (show f 2 = .int .i64 (n : Int) from hu 2 (by decide))
      have hsl := HSL.out W
      refine ph_sem rfl rfl (r := .ok (.value (.slice a n c)) W) ?_ (hK _ _ (gb_rr W _) rfl)
      have eC : ∀ c, A.eval (.const c) = c := fun _ => rfl; have eF : ∀ g, A.eval (.func g) = .func (.func g) #[] #[] := fun _ => rfl; generalize A.eval = ρ at *
      clear hA hu hg hK
      go_simp
    | 4, hin, ho, hu, hK =>
      cases ho
      have e13 : A.eval (.tmp 13) = .slice a n c := (ev_in hA 13 3 rfl rfl rfl).trans (show f 3 = .slice a n c from hu 3 (by decide))
      have hcv := HCV.out W hg
      refine ph_sem rfl rfl (r := .ok (.value (.string S)) W) ?_ (hK _ _ (gb_rr W _) rfl)
      have eC : ∀ c, A.eval (.const c) = c := fun _ => rfl; have eF : ∀ g, A.eval (.func g) = .func (.func g) #[] #[] := fun _ => rfl; generalize A.eval = ρ at *
      clear hA hu hg hK
      go_simp
    | 5, hin, ho, hu, hK =>
      cases ho
      have e6 : A.eval (.tmp 6) = .int .i64 (n : Int) := ev_out hA 6 rfl
      exact ph_move _ rfl rfl (.int .i64 (n : Int)) e6 (hK _ _ (gb_rr W _) rfl)
    | 6, hin, ho, hu, hK =>
      cases ho
      have e15 : A.eval (.tmp 15) = .int .i64 (n : Int) := (ev_in hA 15 5 rfl rfl rfl).trans (show f 5 = .int .i64 (n : Int) from hu 5 (by decide))
      have hms := HMS.out W
      refine ph_sem rfl rfl (r := .ok (.value (.string M)) W) ?_ (hK _ _ (gb_rr W _) rfl)
      have eC : ∀ c, A.eval (.const c) = c := fun _ => rfl; have eF : ∀ g, A.eval (.func g) = .func (.func g) #[] #[] := fun _ => rfl; generalize A.eval = ρ at *
      clear hA hu hg hK
      go_simp
    | 7, hin, ho, hu, hK =>
      cases ho
      have e14 : A.eval (.tmp 14) = .string S := (ev_in hA 14 4 rfl rfl rfl).trans (show f 4 = .string S from hu 4 (by decide))
      have e16 : A.eval (.tmp 16) = .string M := (ev_in hA 16 6 rfl rfl rfl).trans (show f 6 = .string M from hu 6 (by decide))
      have heq := HEQ.out
      refine ph_sem rfl rfl (r := .ok (.value (.bool true)) W) ?_ (hK _ _ (gb_rr W _) rfl)
      have eC : ∀ c, A.eval (.const c) = c := fun _ => rfl; have eF : ∀ g, A.eval (.func g) = .func (.func g) #[] #[] := fun _ => rfl; generalize A.eval = ρ at *
      clear hA hu hg hK
      go_simp
    | i + 8, hin, ho, hu, hK => omega
  case last =>
    intro f W A hA hg hu o ho K hK
    cases ho
    have e10 : A.eval (.tmp 10) = .pointer (some ⟨g, 0, none⟩) := (ev_in hA 10 0 rfl rfl rfl).trans (show f 0 = .pointer (some ⟨g, 0, none⟩) from hu 0 (by decide))
    have e17 : A.eval (.tmp 17) = .bool true := (ev_in hA 17 7 rfl rfl rfl).trans (show f 7 = .bool true from hu 7 (by decide))
    refine ph_fn 58 _ _ rfl rfl #[.pointer (some ⟨g, 0, none⟩), .bool true, .int .i64 92] (by simp [e10, e17]; rfl) (by kernel_rfl) ?_
    refine (Calls.mono (omust_so g 92 W) ?_)
    rintro _ W9 ⟨rfl, hq⟩
    obtain rfl := hq.symm
    clear hq
    refine ⟨_, rfl, hK _ _ ?_⟩
    have HG : Hid (w.grownBy W none) := hg
    clear hg e10 e17
    have hA2 := hA.trans (putAll_lit [(.pointer (some ⟨g, 0, none⟩)), (.slice a n c), (.int .i64 (n : Int)), (.slice a n c), (.string S), (.int .i64 (n : Int)), (.string M), (.bool true), (f 8)] (by
      intro j hj
      match j, hj with
      | 0, _ => exact hu 0 (by decide)
      | 1, _ => exact hu 1 (by decide)
      | 2, _ => exact hu 2 (by decide)
      | 3, _ => exact hu 3 (by decide)
      | 4, _ => exact hu 4 (by decide)
      | 5, _ => exact hu 5 (by decide)
      | 6, _ => exact hu 6 (by decide)
      | 7, _ => exact hu 7 (by decide)
      | 8, _ => rfl
      | j + 9, hj => exact absurd hj (by simp)))
    clear hu hA
    subst hA2
    simp only [putAll, putL, List.mem_cons, List.not_mem_nil, List.idxOf_cons, Nat.reduceEqDiff, Nat.reduceBEq, Nat.reduceAdd, or_false, or_true, reduceIte, cond_true, cond_false, List.getD_cons_zero, List.getD_cons_succ, BEq.rfl]
    go_wp2
    go_ret2
    exact ⟨rfl, HG.out⟩
set_option maxRecDepth 20000 in
set_option maxHeartbeats 1000000 in
theorem omark_s4 (g : Nat) (o : Opn) (a : Option Addr) (n c : Nat) (xs : List Int) (w : World) (h : OpB w g o) (hx : Seg .u8 w a 4 xs) (hb : Bytes xs) (hnc : 4 ≤ c)  (hm : decide (xs.take 4 = mark4.take 4) = true) :
    Calls Tryd.prog 122 #[.pointer (some ⟨g, 0, none⟩), .slice a 4 c] w fun r w' => r = .returned (.tuple #[.int .i64 4, .bool true]) ∧ w.grownBy w' none := by
  have HSL : Hid (∀ W, (Instr.slice 27 (.slice a 4 c) none (some (.int .i64 4)) none).run Tryd.prog W = .ok (.slice a 4 c) W) := slice_hI a 4 c 4 4 rfl (by omega)
  have HCV : Hid (∀ W, w.grownBy W none → (convert 27 9 (.slice a 4 c)).run Tryd.prog W = .ok (.string (strOfNums (xs.take 4))) W) := fun W hg => seg_string (P := Tryd.prog) 27 9 5 c ((seg_takeO hx 4 (by omega)).grew hg (by simp)) Tryd.underlying27 Tryd.underlying5 Tryd.underlying9
  have HMS : Hid (∀ W, (Instr.slice 9 (.string mark0) none (some (.int .i64 4)) none).run Tryd.prog W = .ok (.string (mark0.extract 0 4)) W) := fun W => by
    have := run_slice_string_h (P := Tryd.prog) (w := W) (t := 9) (s := mark0) (ht := Tryd.underlying9) .i64 4 (by omega) (by show (4 : Int) ≤ 4; omega)
    simpa using this
  have HEQ : Hid (((strOfNums (xs.take 4)).toList == (mark0.extract 0 4).toList) = true) := by rw [mark0_eq hb 4 (by omega)]; exact hm
  have HO : Hid (∀ W, w.grownBy W none → OpB W g o) := fun W hg => opb_gb h hg
  generalize strOfNums (xs.take 4) = S at HCV HEQ
  generalize hM : mark0.extract 0 4 = M at HMS HEQ
  unfold mark0 at HMS
  clear h hx hb hm hM
  go_enter Tryd.func122, Tryd.ntmps122
  go_wp2_with fail
  refine wp_region_lastR (fun a b => World.grownBy a b none) (fun _ _ _ h k => gb_trans h k) ⟨rfl, rfl, rfl, Nat.le_refl _, fun _ _ _ => rfl⟩ 8 rfl (by kernel_rfl) [10, 11, 12, 13, 14, 15, 16, 17, 18] [[], [], [], [1, 2], [3], [], [5], [4, 6], [0, 7]] (by kernel_rfl) (by kernel_rfl) [fun u W => u = .pointer (some ⟨g, 0, none⟩), fun u W => u = .slice a 4 c, fun u W => u = .int .i64 4, fun u W => u = .slice a 4 c, fun u W => u = .string S, fun u W => u = .int .i64 4, fun u W => u = .string M, fun u W => u = .bool true] ?stable ?step ?last
  case stable =>
    intro i v W W' h hg
    match i, h with
    | 0, h => exact h
    | 1, h => exact h
    | 2, h => exact h
    | 3, h => exact h
    | 4, h => exact h
    | 5, h => exact h
    | 6, h => exact h
    | 7, h => exact h
    | i + 8, h => exact trivial
  case step =>
    intro f W A hA hg i o hin ho hu K hK
    match i, hin, ho, hu, hK with
    | 0, hin, ho, hu, hK =>
      cases ho
      have e0 : A.eval (.tmp 0) = .pointer (some ⟨g, 0, none⟩) := ev_out hA 0 rfl
      exact ph_move _ rfl rfl (.pointer (some ⟨g, 0, none⟩)) e0 (hK _ _ (gb_rr W _) rfl)
    | 1, hin, ho, hu, hK =>
      cases ho
      have e1 : A.eval (.tmp 1) = .slice a 4 c := ev_out hA 1 rfl
      exact ph_move _ rfl rfl (.slice a 4 c) e1 (hK _ _ (gb_rr W _) rfl)
    | 2, hin, ho, hu, hK =>
      cases ho
      have e6 : A.eval (.tmp 6) = .int .i64 4 := ev_out hA 6 rfl
      exact ph_move _ rfl rfl (.int .i64 4) e6 (hK _ _ (gb_rr W _) rfl)
    | 3, hin, ho, hu, hK =>
      cases ho
      have e11 : A.eval (.tmp 11) = .slice a 4 c := (ev_in hA 11 1 rfl rfl rfl).trans (show f 1 = .slice a 4 c from hu 1 (by decide))
      have e12 : A.eval (.tmp 12) = .int .i64 4 := (ev_in hA 12 2 rfl rfl rfl).trans (show f 2 = .int .i64 4 from hu 2 (by decide))
      have hsl := HSL.out W
      refine ph_sem rfl rfl (r := .ok (.value (.slice a 4 c)) W) ?_ (hK _ _ (gb_rr W _) rfl)
      have eC : ∀ c, A.eval (.const c) = c := fun _ => rfl; have eF : ∀ g, A.eval (.func g) = .func (.func g) #[] #[] := fun _ => rfl; generalize A.eval = ρ at *
      clear hA hu hg hK
      go_simp
    | 4, hin, ho, hu, hK =>
      cases ho
      have e13 : A.eval (.tmp 13) = .slice a 4 c := (ev_in hA 13 3 rfl rfl rfl).trans (show f 3 = .slice a 4 c from hu 3 (by decide))
      have hcv := HCV.out W hg
      refine ph_sem rfl rfl (r := .ok (.value (.string S)) W) ?_ (hK _ _ (gb_rr W _) rfl)
      have eC : ∀ c, A.eval (.const c) = c := fun _ => rfl; have eF : ∀ g, A.eval (.func g) = .func (.func g) #[] #[] := fun _ => rfl; generalize A.eval = ρ at *
      clear hA hu hg hK
      go_simp
    | 5, hin, ho, hu, hK =>
      cases ho
      have e6 : A.eval (.tmp 6) = .int .i64 4 := ev_out hA 6 rfl
      exact ph_move _ rfl rfl (.int .i64 4) e6 (hK _ _ (gb_rr W _) rfl)
    | 6, hin, ho, hu, hK =>
      cases ho
      have e15 : A.eval (.tmp 15) = .int .i64 4 := (ev_in hA 15 5 rfl rfl rfl).trans (show f 5 = .int .i64 4 from hu 5 (by decide))
      have hms := HMS.out W
      refine ph_sem rfl rfl (r := .ok (.value (.string M)) W) ?_ (hK _ _ (gb_rr W _) rfl)
      have eC : ∀ c, A.eval (.const c) = c := fun _ => rfl; have eF : ∀ g, A.eval (.func g) = .func (.func g) #[] #[] := fun _ => rfl; generalize A.eval = ρ at *
      clear hA hu hg hK
      go_simp
    | 7, hin, ho, hu, hK =>
      cases ho
      have e14 : A.eval (.tmp 14) = .string S := (ev_in hA 14 4 rfl rfl rfl).trans (show f 4 = .string S from hu 4 (by decide))
      have e16 : A.eval (.tmp 16) = .string M := (ev_in hA 16 6 rfl rfl rfl).trans (show f 6 = .string M from hu 6 (by decide))
      have heq := HEQ.out
      refine ph_sem rfl rfl (r := .ok (.value (.bool true)) W) ?_ (hK _ _ (gb_rr W _) rfl)
      have eC : ∀ c, A.eval (.const c) = c := fun _ => rfl; have eF : ∀ g, A.eval (.func g) = .func (.func g) #[] #[] := fun _ => rfl; generalize A.eval = ρ at *
      clear hA hu hg hK
      go_simp
    | i + 8, hin, ho, hu, hK => omega
  case last =>
    intro f W A hA hg hu o ho K hK
    cases ho
    have e10 : A.eval (.tmp 10) = .pointer (some ⟨g, 0, none⟩) := (ev_in hA 10 0 rfl rfl rfl).trans (show f 0 = .pointer (some ⟨g, 0, none⟩) from hu 0 (by decide))
    have e17 : A.eval (.tmp 17) = .bool true := (ev_in hA 17 7 rfl rfl rfl).trans (show f 7 = .bool true from hu 7 (by decide))
    refine ph_fn 58 _ _ rfl rfl #[.pointer (some ⟨g, 0, none⟩), .bool true, .int .i64 92] (by simp [e10, e17]; rfl) (by kernel_rfl) ?_
    refine (Calls.mono (omust_so g 92 W) ?_)
    rintro _ W9 ⟨rfl, hq⟩
    obtain rfl := hq.symm
    clear hq
    refine ⟨_, rfl, hK _ _ ?_⟩
    have HG : Hid (w.grownBy W none) := hg
    clear hg e10 e17
    have hA2 := hA.trans (putAll_lit [(.pointer (some ⟨g, 0, none⟩)), (.slice a 4 c), (.int .i64 4), (.slice a 4 c), (.string S), (.int .i64 4), (.string M), (.bool true), (f 8)] (by
      intro j hj
      match j, hj with
      | 0, _ => exact hu 0 (by decide)
      | 1, _ => exact hu 1 (by decide)
      | 2, _ => exact hu 2 (by decide)
      | 3, _ => exact hu 3 (by decide)
      | 4, _ => exact hu 4 (by decide)
      | 5, _ => exact hu 5 (by decide)
      | 6, _ => exact hu 6 (by decide)
      | 7, _ => exact hu 7 (by decide)
      | 8, _ => rfl
      | j + 9, hj => exact absurd hj (by simp)))
    clear hu hA
    subst hA2
    simp only [putAll, putL, List.mem_cons, List.not_mem_nil, List.idxOf_cons, Nat.reduceEqDiff, Nat.reduceBEq, Nat.reduceAdd, or_false, or_true, reduceIte, cond_true, cond_false, List.getD_cons_zero, List.getD_cons_succ, BEq.rfl]
    go_wp2
    go_ret2
    exact ⟨rfl, HG.out⟩
set_option maxRecDepth 20000 in
set_option maxHeartbeats 1000000 in
theorem omark_s5 (g : Nat) (o : Opn) (a : Option Addr) (n c : Nat) (xs : List Int) (w : World) (h : OpB w g o) (hx : Seg .u8 w a n xs) (hb : Bytes xs) (hnc : n ≤ c) (hn : 4 < n) (hm : decide (xs.take 4 = mark4.take 4) = true) :
    Calls Tryd.prog 122 #[.pointer (some ⟨g, 0, none⟩), .slice a n c] w fun r w' => r = .returned (.tuple #[.int .i64 4, .bool true]) ∧ w.grownBy w' none := by
  have HSL : Hid (∀ W, (Instr.slice 27 (.slice a n c) none (some (.int .i64 4)) none).run Tryd.prog W = .ok (.slice a 4 c) W) := slice_hI a n c 4 4 rfl (by omega)
  have HCV : Hid (∀ W, w.grownBy W none → (convert 27 9 (.slice a 4 c)).run Tryd.prog W = .ok (.string (strOfNums (xs.take 4))) W) := fun W hg => seg_string (P := Tryd.prog) 27 9 5 c ((seg_takeO hx 4 (by omega)).grew hg (by simp)) Tryd.underlying27 Tryd.underlying5 Tryd.underlying9
  have HMS : Hid (∀ W, (Instr.slice 9 (.string mark0) none (some (.int .i64 4)) none).run Tryd.prog W = .ok (.string (mark0.extract 0 4)) W) := fun W => by
    have := run_slice_string_h (P := Tryd.prog) (w := W) (t := 9) (s := mark0) (ht := Tryd.underlying9) .i64 4 (by omega) (by show (4 : Int) ≤ 4; omega)
    simpa using this
  have HEQ : Hid (((strOfNums (xs.take 4)).toList == (mark0.extract 0 4).toList) = true) := by rw [mark0_eq hb 4 (by omega)]; exact hm
  have HO : Hid (∀ W, w.grownBy W none → OpB W g o) := fun W hg => opb_gb h hg
  generalize strOfNums (xs.take 4) = S at HCV HEQ
  generalize hM : mark0.extract 0 4 = M at HMS HEQ
  unfold mark0 at HMS
  clear h hx hb hm hM
  have hlt2 : (4 : Int) < (n : Int) := by omega
  have hle2 : ¬ (n : Int) ≤ 4 := by omega
  go_enter Tryd.func122, Tryd.ntmps122
  go_wp2_with fail
  refine wp_region_lastR (fun a b => World.grownBy a b none) (fun _ _ _ h k => gb_trans h k) ⟨rfl, rfl, rfl, Nat.le_refl _, fun _ _ _ => rfl⟩ 8 rfl (by kernel_rfl) [10, 11, 12, 13, 14, 15, 16, 17, 18] [[], [], [], [1, 2], [3], [], [5], [4, 6], [0, 7]] (by kernel_rfl) (by kernel_rfl) [fun u W => u = .pointer (some ⟨g, 0, none⟩), fun u W => u = .slice a n c, fun u W => u = .int .i64 4, fun u W => u = .slice a 4 c, fun u W => u = .string S, fun u W => u = .int .i64 4, fun u W => u = .string M, fun u W => u = .bool true] ?stable ?step ?last
  case stable =>
    intro i v W W' h hg
    match i, h with
    | 0, h => exact h
    | 1, h => exact h
    | 2, h => exact h
    | 3, h => exact h
    | 4, h => exact h
    | 5, h => exact h
    | 6, h => exact h
    | 7, h => exact h
    | i + 8, h => exact trivial
  case step =>
    intro f W A hA hg i o hin ho hu K hK
    match i, hin, ho, hu, hK with
    | 0, hin, ho, hu, hK =>
      cases ho
      have e0 : A.eval (.tmp 0) = .pointer (some ⟨g, 0, none⟩) := ev_out hA 0 rfl
      exact ph_move _ rfl rfl (.pointer (some ⟨g, 0, none⟩)) e0 (hK _ _ (gb_rr W _) rfl)
    | 1, hin, ho, hu, hK =>
      cases ho
      have e1 : A.eval (.tmp 1) = .slice a n c := ev_out hA 1 rfl
      exact ph_move _ rfl rfl (.slice a n c) e1 (hK _ _ (gb_rr W _) rfl)
    | 2, hin, ho, hu, hK =>
      cases ho
      have e6 : A.eval (.tmp 6) = .int .i64 4 := ev_out hA 6 rfl
      exact ph_move _ rfl rfl (.int .i64 4) e6 (hK _ _ (gb_rr W _) rfl)
    | 3, hin, ho, hu, hK =>
      cases ho
      have e11 : A.eval (.tmp 11) = .slice a n c := (ev_in hA 11 1 rfl rfl rfl).trans (show f 1 = .slice a n c from hu 1 (by decide))
      have e12 : A.eval (.tmp 12) = .int .i64 4 := (ev_in hA 12 2 rfl rfl rfl).trans (show f 2 = .int .i64 4 from hu 2 (by decide))
      have hsl := HSL.out W
      refine ph_sem rfl rfl (r := .ok (.value (.slice a 4 c)) W) ?_ (hK _ _ (gb_rr W _) rfl)
      have eC : ∀ c, A.eval (.const c) = c := fun _ => rfl; have eF : ∀ g, A.eval (.func g) = .func (.func g) #[] #[] := fun _ => rfl; generalize A.eval = ρ at *
      clear hA hu hg hK
      go_simp
    | 4, hin, ho, hu, hK =>
      cases ho
      have e13 : A.eval (.tmp 13) = .slice a 4 c := (ev_in hA 13 3 rfl rfl rfl).trans (show f 3 = .slice a 4 c from hu 3 (by decide))
      have hcv := HCV.out W hg
      refine ph_sem rfl rfl (r := .ok (.value (.string S)) W) ?_ (hK _ _ (gb_rr W _) rfl)
      have eC : ∀ c, A.eval (.const c) = c := fun _ => rfl; have eF : ∀ g, A.eval (.func g) = .func (.func g) #[] #[] := fun _ => rfl; generalize A.eval = ρ at *
      clear hA hu hg hK
      go_simp
    | 5, hin, ho, hu, hK =>
      cases ho
      have e6 : A.eval (.tmp 6) = .int .i64 4 := ev_out hA 6 rfl
      exact ph_move _ rfl rfl (.int .i64 4) e6 (hK _ _ (gb_rr W _) rfl)
    | 6, hin, ho, hu, hK =>
      cases ho
      have e15 : A.eval (.tmp 15) = .int .i64 4 := (ev_in hA 15 5 rfl rfl rfl).trans (show f 5 = .int .i64 4 from hu 5 (by decide))
      have hms := HMS.out W
      refine ph_sem rfl rfl (r := .ok (.value (.string M)) W) ?_ (hK _ _ (gb_rr W _) rfl)
      have eC : ∀ c, A.eval (.const c) = c := fun _ => rfl; have eF : ∀ g, A.eval (.func g) = .func (.func g) #[] #[] := fun _ => rfl; generalize A.eval = ρ at *
      clear hA hu hg hK
      go_simp
    | 7, hin, ho, hu, hK =>
      cases ho
      have e14 : A.eval (.tmp 14) = .string S := (ev_in hA 14 4 rfl rfl rfl).trans (show f 4 = .string S from hu 4 (by decide))
      have e16 : A.eval (.tmp 16) = .string M := (ev_in hA 16 6 rfl rfl rfl).trans (show f 6 = .string M from hu 6 (by decide))
      have heq := HEQ.out
      refine ph_sem rfl rfl (r := .ok (.value (.bool true)) W) ?_ (hK _ _ (gb_rr W _) rfl)
      have eC : ∀ c, A.eval (.const c) = c := fun _ => rfl; have eF : ∀ g, A.eval (.func g) = .func (.func g) #[] #[] := fun _ => rfl; generalize A.eval = ρ at *
      clear hA hu hg hK
      go_simp
    | i + 8, hin, ho, hu, hK => omega
  case last =>
    intro f W A hA hg hu o ho K hK
    cases ho
    have e10 : A.eval (.tmp 10) = .pointer (some ⟨g, 0, none⟩) := (ev_in hA 10 0 rfl rfl rfl).trans (show f 0 = .pointer (some ⟨g, 0, none⟩) from hu 0 (by decide))
    have e17 : A.eval (.tmp 17) = .bool true := (ev_in hA 17 7 rfl rfl rfl).trans (show f 7 = .bool true from hu 7 (by decide))
    refine ph_fn 58 _ _ rfl rfl #[.pointer (some ⟨g, 0, none⟩), .bool true, .int .i64 92] (by simp [e10, e17]; rfl) (by kernel_rfl) ?_
    refine (Calls.mono (omust_so g 92 W) ?_)
    rintro _ W9 ⟨rfl, hq⟩
    obtain rfl := hq.symm
    clear hq
    refine ⟨_, rfl, hK _ _ ?_⟩
    have HG : Hid (w.grownBy W none) := hg
    clear hg e10 e17
    have hA2 := hA.trans (putAll_lit [(.pointer (some ⟨g, 0, none⟩)), (.slice a n c), (.int .i64 4), (.slice a 4 c), (.string S), (.int .i64 4), (.string M), (.bool true), (f 8)] (by
      intro j hj
      match j, hj with
      | 0, _ => exact hu 0 (by decide)
      | 1, _ => exact hu 1 (by decide)
      | 2, _ => exact hu 2 (by decide)
      | 3, _ => exact hu 3 (by decide)
      | 4, _ => exact hu 4 (by decide)
      | 5, _ => exact hu 5 (by decide)
      | 6, _ => exact hu 6 (by decide)
      | 7, _ => exact hu 7 (by decide)
      | 8, _ => rfl
      | j + 9, hj => exact absurd hj (by simp)))
    clear hu hA
    subst hA2
    simp only [putAll, putL, List.mem_cons, List.not_mem_nil, List.idxOf_cons, Nat.reduceEqDiff, Nat.reduceBEq, Nat.reduceAdd, or_false, or_true, reduceIte, cond_true, cond_false, List.getD_cons_zero, List.getD_cons_succ, BEq.rfl]
    go_wp2
    go_ret2
    exact ⟨rfl, HG.out⟩
set_option maxRecDepth 20000 in
set_option maxHeartbeats 1000000 in
theorem omark_n3 (g : Nat) (o : Opn) (a : Option Addr) (n c : Nat) (xs : List Int) (w : World) (h : OpB w g o) (hx : Seg .u8 w a n xs) (hb : Bytes xs) (hnc : n ≤ c) (hn : n < 4) (hm : decide (xs.take n = mark4.take n) = false) :
    Calls Tryd.prog 122 #[.pointer (some ⟨g, 0, none⟩), .slice a n c] w fun r w' => r = .panicked (chnE 92) ∧ OpB w' g { o with err := 92, rest := none } ∧ w.grownBy w' (some g) := by
  have HSL : Hid (∀ W, (Instr.slice 27 (.slice a n c) none (some (.int .i64 (n : Int))) none).run Tryd.prog W = .ok (.slice a n c) W) := slice_hI a n c n (n : Int) rfl (by omega)
  have HCV : Hid (∀ W, w.grownBy W none → (convert 27 9 (.slice a n c)).run Tryd.prog W = .ok (.string (strOfNums (xs.take n))) W) := fun W hg => seg_string (P := Tryd.prog) 27 9 5 c ((seg_takeO hx n (by omega)).grew hg (by simp)) Tryd.underlying27 Tryd.underlying5 Tryd.underlying9
  have HMS : Hid (∀ W, (Instr.slice 9 (.string mark0) none (some (.int .i64 (n : Int))) none).run Tryd.prog W = .ok (.string (mark0.extract 0 n)) W) := fun W => by
    have := run_slice_string_h (P := Tryd.prog) (w := W) (t := 9) (s := mark0) (ht := Tryd.underlying9) .i64 (n : Int) (by omega) (by show ((n : Int) : Int) ≤ 4; omega)
    simpa using this
  have HEQ : Hid (((strOfNums (xs.take n)).toList == (mark0.extract 0 n).toList) = false) := by rw [mark0_eq hb n (by omega)]; exact hm
  have HO : Hid (∀ W, w.grownBy W none → OpB W g o) := fun W hg => opb_gb h hg
  generalize strOfNums (xs.take n) = S at HCV HEQ
  generalize hM : mark0.extract 0 n = M at HMS HEQ
  unfold mark0 at HMS
  clear h hx hb hm hM
  have hlt2 : (n : Int) < 4 := by omega
  have hle2 : (n : Int) ≤ 4 := by omega
  go_enter Tryd.func122, Tryd.ntmps122
  go_wp2_with fail
  refine wp_region_lastR (fun a b => World.grownBy a b none) (fun _ _ _ h k => gb_trans h k) ⟨rfl, rfl, rfl, Nat.le_refl _, fun _ _ _ => rfl⟩ 8 rfl (by kernel_rfl) [10, 11, 12, 13, 14, 15, 16, 17, 18] [[], [], [], [1, 2], [3], [], [5], [4, 6], [0, 7]] (by kernel_rfl) (by kernel_rfl) [fun u W => u = .pointer (some ⟨g, 0, none⟩), fun u W => u = .slice a n c, fun u W => u = .int .i64 (n : Int), fun u W => u = .slice a n c, fun u W => u = .string S, fun u W => u = .int .i64 (n : Int), fun u W => u = .string M, fun u W => u = .bool false] ?stable ?step ?last
  case stable =>
    intro i v W W' h hg
    match i, h with
    | 0, h => exact h
    | 1, h => exact h
    | 2, h => exact h
    | 3, h => exact h
    | 4, h => exact h
    | 5, h => exact h
    | 6, h => exact h
    | 7, h => exact h
    | i + 8, h => exact trivial
  case step =>
    intro f W A hA hg i o hin ho hu K hK
    match i, hin, ho, hu, hK with
    | 0, hin, ho, hu, hK =>
      cases ho
      have e0 : A.eval (.tmp 0) = .pointer (some ⟨g, 0, none⟩) := ev_out hA 0 rfl
      exact ph_move _ rfl rfl (.pointer (some ⟨g, 0, none⟩)) e0 (hK _ _ (gb_rr W _) rfl)
    | 1, hin, ho, hu, hK =>
      cases ho
      have e1 : A.eval (.tmp 1) = .slice a n c := ev_out hA 1 rfl
      exact ph_move _ rfl rfl (.slice a n c) e1 (hK _ _ (gb_rr W _) rfl)
    | 2, hin, ho, hu, hK =>
      cases ho
      have e6 : A.eval (.tmp 6) = .int .i64 (n : Int) := ev_out hA 6 rfl
      exact ph_move _ rfl rfl (.int .i64 (n : Int)) e6 (hK _ _ (gb_rr W _) rfl)
    | 3, hin, ho, hu, hK =>
      cases ho
      have e11 : A.eval (.tmp 11) = .slice a n c := (ev_in hA 11 1 rfl rfl rfl).trans (show f 1 = .slice a n c from hu 1 (by decide))
      have e12 : A.eval (.tmp 12) = .int .i64 (n : Int) := (ev_in hA 12 2 rfl rfl rfl).trans (show f 2 = .int .i64 (n : Int) from hu 2 (by decide))
      have hsl := HSL.out W
      refine ph_sem rfl rfl (r := .ok (.value (.slice a n c)) W) ?_ (hK _ _ (gb_rr W _) rfl)
      have eC : ∀ c, A.eval (.const c) = c := fun _ => rfl; have eF : ∀ g, A.eval (.func g) = .func (.func g) #[] #[] := fun _ => rfl; generalize A.eval = ρ at *
      clear hA hu hg hK
      go_simp
    | 4, hin, ho, hu, hK =>
      cases ho
      have e13 : A.eval (.tmp 13) = .slice a n c := (ev_in hA 13 3 rfl rfl rfl).trans (show f 3 = .slice a n c from hu 3 (by decide))
      have hcv := HCV.out W hg
      refine ph_sem rfl rfl (r := .ok (.value (.string S)) W) ?_ (hK _ _ (gb_rr W _) rfl)
      have eC : ∀ c, A.eval (.const c) = c := fun _ => rfl; have eF : ∀ g, A.eval (.func g) = .func (.func g) #[] #[] := fun _ => rfl; generalize A.eval = ρ at *
      clear hA hu hg hK
      go_simp
    | 5, hin, ho, hu, hK =>
      cases ho
      have e6 : A.eval (.tmp 6) = .int .i64 (n : Int) := ev_out hA 6 rfl
      exact ph_move _ rfl rfl (.int .i64 (n : Int)) e6 (hK _ _ (gb_rr W _) rfl)
    | 6, hin, ho, hu, hK =>
      cases ho
      have e15 : A.eval (.tmp 15) = .int .i64 (n : Int) := (ev_in hA 15 5 rfl rfl rfl).trans (show f 5 = .int .i64 (n : Int) from hu 5 (by decide))
      have hms := HMS.out W
      refine ph_sem rfl rfl (r := .ok (.value (.string M)) W) ?_ (hK _ _ (gb_rr W _) rfl)
      have eC : ∀ c, A.eval (.const c) = c := fun _ => rfl; have eF : ∀ g, A.eval (.func g) = .func (.func g) #[] #[] := fun _ => rfl; generalize A.eval = ρ at *
      clear hA hu hg hK
      go_simp
    | 7, hin, ho, hu, hK =>
      cases ho
      have e14 : A.eval (.tmp 14) = .string S := (ev_in hA 14 4 rfl rfl rfl).trans (show f 4 = .string S from hu 4 (by decide))
      have e16 : A.eval (.tmp 16) = .string M := (ev_in hA 16 6 rfl rfl rfl).trans (show f 6 = .string M from hu 6 (by decide))
      have heq := HEQ.out
      refine ph_sem rfl rfl (r := .ok (.value (.bool false)) W) ?_ (hK _ _ (gb_rr W _) rfl)
      have eC : ∀ c, A.eval (.const c) = c := fun _ => rfl; have eF : ∀ g, A.eval (.func g) = .func (.func g) #[] #[] := fun _ => rfl; generalize A.eval = ρ at *
      clear hA hu hg hK
      go_simp
    | i + 8, hin, ho, hu, hK => omega
  case last =>
    intro f W A hA hg hu o ho K hK
    cases ho
    have e10 : A.eval (.tmp 10) = .pointer (some ⟨g, 0, none⟩) := (ev_in hA 10 0 rfl rfl rfl).trans (show f 0 = .pointer (some ⟨g, 0, none⟩) from hu 0 (by decide))
    have e17 : A.eval (.tmp 17) = .bool false := (ev_in hA 17 7 rfl rfl rfl).trans (show f 7 = .bool false from hu 7 (by decide))
    refine ph_fnP 58 _ _ rfl rfl #[.pointer (some ⟨g, 0, none⟩), .bool false, .int .i64 92] (by simp [e10, e17]; rfl) (by kernel_rfl) ?_
    refine (Calls.mono (omust_no g o 92 W (HO.out W hg)) ?_)
    rintro _ W9 ⟨rfl, h9, h8⟩
    refine ⟨_, rfl, ?_⟩
    have H9 : Hid _ := And.intro h9 (gb_trans (gb_wide hg _) h8)
    clear h9 h8 hg hK hu
    subst hA
    exact ⟨rfl, rfl, H9.out⟩
set_option maxRecDepth 20000 in
set_option maxHeartbeats 1000000 in
theorem omark_n4 (g : Nat) (o : Opn) (a : Option Addr) (n c : Nat) (xs : List Int) (w : World) (h : OpB w g o) (hx : Seg .u8 w a 4 xs) (hb : Bytes xs) (hnc : 4 ≤ c)  (hm : decide (xs.take 4 = mark4.take 4) = false) :
    Calls Tryd.prog 122 #[.pointer (some ⟨g, 0, none⟩), .slice a 4 c] w fun r w' => r = .panicked (chnE 92) ∧ OpB w' g { o with err := 92, rest := none } ∧ w.grownBy w' (some g) := by
  have HSL : Hid (∀ W, (Instr.slice 27 (.slice a 4 c) none (some (.int .i64 4)) none).run Tryd.prog W = .ok (.slice a 4 c) W) := slice_hI a 4 c 4 4 rfl (by omega)
  have HCV : Hid (∀ W, w.grownBy W none → (convert 27 9 (.slice a 4 c)).run Tryd.prog W = .ok (.string (strOfNums (xs.take 4))) W) := fun W hg => seg_string (P := Tryd.prog) 27 9 5 c ((seg_takeO hx 4 (by omega)).grew hg (by simp)) Tryd.underlying27 Tryd.underlying5 Tryd.underlying9
  have HMS : Hid (∀ W, (Instr.slice 9 (.string mark0) none (some (.int .i64 4)) none).run Tryd.prog W = .ok (.string (mark0.extract 0 4)) W) := fun W => by
    have := run_slice_string_h (P := Tryd.prog) (w := W) (t := 9) (s := mark0) (ht := Tryd.underlying9) .i64 4 (by omega) (by show (4 : Int) ≤ 4; omega)
    simpa using this
  have HEQ : Hid (((strOfNums (xs.take 4)).toList == (mark0.extract 0 4).toList) = false) := by rw [mark0_eq hb 4 (by omega)]; exact hm
  have HO : Hid (∀ W, w.grownBy W none → OpB W g o) := fun W hg => opb_gb h hg
  generalize strOfNums (xs.take 4) = S at HCV HEQ
  generalize hM : mark0.extract 0 4 = M at HMS HEQ
  unfold mark0 at HMS
  clear h hx hb hm hM
  go_enter Tryd.func122, Tryd.ntmps122
  go_wp2_with fail
  refine wp_region_lastR (fun a b => World.grownBy a b none) (fun _ _ _ h k => gb_trans h k) ⟨rfl, rfl, rfl, Nat.le_refl _, fun _ _ _ => rfl⟩ 8 rfl (by kernel_rfl) [10, 11, 12, 13, 14, 15, 16, 17, 18] [[], [], [], [1, 2], [3], [], [5], [4, 6], [0, 7]] (by kernel_rfl) (by kernel_rfl) [fun u W => u = .pointer (some ⟨g, 0, none⟩), fun u W => u = .slice a 4 c, fun u W => u = .int .i64 4, fun u W => u = .slice a 4 c, fun u W => u = .string S, fun u W => u = .int .i64 4, fun u W => u = .string M, fun u W => u = .bool false] ?stable ?step ?last
  case stable =>
    intro i v W W' h hg
    match i, h with
    | 0, h => exact h
    | 1, h => exact h
    | 2, h => exact h
    | 3, h => exact h
    | 4, h => exact h
    | 5, h => exact h
    | 6, h => exact h
    | 7, h => exact h
    | i + 8, h => exact trivial
  case step =>
    intro f W A hA hg i o hin ho hu K hK
    match i, hin, ho, hu, hK with
    | 0, hin, ho, hu, hK =>
      cases ho
      have e0 : A.eval (.tmp 0) = .pointer (some ⟨g, 0, none⟩) := ev_out hA 0 rfl
      exact ph_move _ rfl rfl (.pointer (some ⟨g, 0, none⟩)) e0 (hK _ _ (gb_rr W _) rfl)
    | 1, hin, ho, hu, hK =>
      cases ho
      have e1 : A.eval (.tmp 1) = .slice a 4 c := ev_out hA 1 rfl
      exact ph_move _ rfl rfl (.slice a 4 c) e1 (hK _ _ (gb_rr W _) rfl)
    | 2, hin, ho, hu, hK =>
      cases ho
      have e6 : A.eval (.tmp 6) = .int .i64 4 := ev_out hA 6 rfl
      exact ph_move _ rfl rfl (.int .i64 4) e6 (hK _ _ (gb_rr W _) rfl)
    | 3, hin, ho, hu, hK =>
      cases ho
      have e11 : A.eval (.tmp 11) = .slice a 4 c := (ev_in hA 11 1 rfl rfl rfl).trans (show f 1 = .slice a 4 c from hu 1 (by decide))
      have e12 : A.eval (.tmp 12) = .int .i64 4 := (ev_in hA 12 2 rfl rfl rfl).trans (show f 2 = .int .i64 4 from hu 2 (by decide))
      have hsl := HSL.out W
      refine ph_sem rfl rfl (r := .ok (.value (.slice a 4 c)) W) ?_ (hK _ _ (gb_rr W _) rfl)
      have eC : ∀ c, A.eval (.const c) = c := fun _ => rfl; have eF : ∀ g, A.eval (.func g) = .func (.func g) #[] #[] := fun _ => rfl; generalize A.eval = ρ at *
      clear hA hu hg hK
      go_simp
    | 4, hin, ho, hu, hK =>
      cases ho
      have e13 : A.eval (.tmp 13) = .slice a 4 c := (ev_in hA 13 3 rfl rfl rfl).trans (show f 3 = .slice a 4 c from hu 3 (by decide))
      have hcv := HCV.out W hg
      refine ph_sem rfl rfl (r := .ok (.value (.string S)) W) ?_ (hK _ _ (gb_rr W _) rfl)
      have eC : ∀ c, A.eval (.const c) = c := fun _ => rfl; have eF : ∀ g, A.eval (.func g) = .func (.func g) #[] #[] := fun _ => rfl; generalize A.eval = ρ at *
      clear hA hu hg hK
      go_simp
    | 5, hin, ho, hu, hK =>
      cases ho
      have e6 : A.eval (.tmp 6) = .int .i64 4 := ev_out hA 6 rfl
      exact ph_move _ rfl rfl (.int .i64 4) e6 (hK _ _ (gb_rr W _) rfl)
    | 6, hin, ho, hu, hK =>
      cases ho
      have e15 : A.eval (.tmp 15) = .int .i64 4 := (ev_in hA 15 5 rfl rfl rfl).trans (show f 5 = .int .i64 4 from hu 5 (by decide))
      have hms := HMS.out W
      refine ph_sem rfl rfl (r := .ok (.value (.string M)) W) ?_ (hK _ _ (gb_rr W _) rfl)
      have eC : ∀ c, A.eval (.const c) = c := fun _ => rfl; have eF : ∀ g, A.eval (.func g) = .func (.func g) #[] #[] := fun _ => rfl; generalize A.eval = ρ at *
      clear hA hu hg hK
      go_simp
    | 7, hin, ho, hu, hK =>
      cases ho
      have e14 : A.eval (.tmp 14) = .string S := (ev_in hA 14 4 rfl rfl rfl).trans (show f 4 = .string S from hu 4 (by decide))
      have e16 : A.eval (.tmp 16) = .string M := (ev_in hA 16 6 rfl rfl rfl).trans (show f 6 = .string M from hu 6 (by decide))
      have heq := HEQ.out
      refine ph_sem rfl rfl (r := .ok (.value (.bool false)) W) ?_ (hK _ _ (gb_rr W _) rfl)
      have eC : ∀ c, A.eval (.const c) = c := fun _ => rfl; have eF : ∀ g, A.eval (.func g) = .func (.func g) #[] #[] := fun _ => rfl; generalize A.eval = ρ at *
      clear hA hu hg hK
      go_simp
    | i + 8, hin, ho, hu, hK => omega
  case last =>
    intro f W A hA hg hu o ho K hK
    cases ho
    have e10 : A.eval (.tmp 10) = .pointer (some ⟨g, 0, none⟩) := (ev_in hA 10 0 rfl rfl rfl).trans (show f 0 = .pointer (some ⟨g, 0, none⟩) from hu 0 (by decide))
    have e17 : A.eval (.tmp 17) = .bool false := (ev_in hA 17 7 rfl rfl rfl).trans (show f 7 = .bool false from hu 7 (by decide))
    refine ph_fnP 58 _ _ rfl rfl #[.pointer (some ⟨g, 0, none⟩), .bool false, .int .i64 92] (by simp [e10, e17]; rfl) (by kernel_rfl) ?_
    refine (Calls.mono (omust_no g o 92 W (HO.out W hg)) ?_)
    rintro _ W9 ⟨rfl, h9, h8⟩
    refine ⟨_, rfl, ?_⟩
    have H9 : Hid _ := And.intro h9 (gb_trans (gb_wide hg _) h8)
    clear h9 h8 hg hK hu
    subst hA
    exact ⟨rfl, rfl, H9.out⟩
set_option maxRecDepth 20000 in
set_option maxHeartbeats 1000000 in
theorem omark_n5 (g : Nat) (o : Opn) (a : Option Addr) (n c : Nat) (xs : List Int) (w : World) (h : OpB w g o) (hx : Seg .u8 w a n xs) (hb : Bytes xs) (hnc : n ≤ c) (hn : 4 < n) (hm : decide (xs.take 4 = mark4.take 4) = false) :
    Calls Tryd.prog 122 #[.pointer (some ⟨g, 0, none⟩), .slice a n c] w fun r w' => r = .panicked (chnE 92) ∧ OpB w' g { o with err := 92, rest := none } ∧ w.grownBy w' (some g) := by
  have HSL : Hid (∀ W, (Instr.slice 27 (.slice a n c) none (some (.int .i64 4)) none).run Tryd.prog W = .ok (.slice a 4 c) W) := slice_hI a n c 4 4 rfl (by omega)
  have HCV : Hid (∀ W, w.grownBy W none → (convert 27 9 (.slice a 4 c)).run Tryd.prog W = .ok (.string (strOfNums (xs.take 4))) W) := fun W hg => seg_string (P := Tryd.prog) 27 9 5 c ((seg_takeO hx 4 (by omega)).grew hg (by simp)) Tryd.underlying27 Tryd.underlying5 Tryd.underlying9
  have HMS : Hid (∀ W, (Instr.slice 9 (.string mark0) none (some (.int .i64 4)) none).run Tryd.prog W = .ok (.string (mark0.extract 0 4)) W) := fun W => by
    have := run_slice_string_h (P := Tryd.prog) (w := W) (t := 9) (s := mark0) (ht := Tryd.underlying9) .i64 4 (by omega) (by show (4 : Int) ≤ 4; omega)
    simpa using this
  have HEQ : Hid (((strOfNums (xs.take 4)).toList == (mark0.extract 0 4).toList) = false) := by rw [mark0_eq hb 4 (by omega)]; exact hm
  have HO : Hid (∀ W, w.grownBy W none → OpB W g o) := fun W hg => opb_gb h hg
  generalize strOfNums (xs.take 4) = S at HCV HEQ
  generalize hM : mark0.extract 0 4 = M at HMS HEQ
  unfold mark0 at HMS
  clear h hx hb hm hM
  have hlt2 : (4 : Int) < (n : Int) := by omega
  have hle2 : ¬ (n : Int) ≤ 4 := by omega
  go_enter Tryd.func122, Tryd.ntmps122
  go_wp2_with fail
  refine wp_region_lastR (fun a b => World.grownBy a b none) (fun _ _ _ h k => gb_trans h k) ⟨rfl, rfl, rfl, Nat.le_refl _, fun _ _ _ => rfl⟩ 8 rfl (by kernel_rfl) [10, 11, 12, 13, 14, 15, 16, 17, 18] [[], [], [], [1, 2], [3], [], [5], [4, 6], [0, 7]] (by kernel_rfl) (by kernel_rfl) [fun u W => u = .pointer (some ⟨g, 0, none⟩), fun u W => u = .slice a n c, fun u W => u = .int .i64 4, fun u W => u = .slice a 4 c, fun u W => u = .string S, fun u W => u = .int .i64 4, fun u W => u = .string M, fun u W => u = .bool false] ?stable ?step ?last
  case stable =>
    intro i v W W' h hg
    match i, h with
    | 0, h => exact h
    | 1, h => exact h
    | 2, h => exact h
    | 3, h => exact h
    | 4, h => exact h
    | 5, h => exact h
    | 6, h => exact h
    | 7, h => exact h
    | i + 8, h => exact trivial
  case step =>
    intro f W A hA hg i o hin ho hu K hK
    match i, hin, ho, hu, hK with
    | 0, hin, ho, hu, hK =>
      cases ho
      have e0 : A.eval (.tmp 0) = .pointer (some ⟨g, 0, none⟩) := ev_out hA 0 rfl
      exact ph_move _ rfl rfl (.pointer (some ⟨g, 0, none⟩)) e0 (hK _ _ (gb_rr W _) rfl)
    | 1, hin, ho, hu, hK =>
      cases ho
      have e1 : A.eval (.tmp 1) = .slice a n c := ev_out hA 1 rfl
      exact ph_move _ rfl rfl (.slice a n c) e1 (hK _ _ (gb_rr W _) rfl)
    | 2, hin, ho, hu, hK =>
      cases ho
      have e6 : A.eval (.tmp 6) = .int .i64 4 := ev_out hA 6 rfl
      exact ph_move _ rfl rfl (.int .i64 4) e6 (hK _ _ (gb_rr W _) rfl)
    | 3, hin, ho, hu, hK =>
      cases ho
      have e11 : A.eval (.tmp 11) = .slice a n c := (ev_in hA 11 1 rfl rfl rfl).trans (show f 1 = .slice a n c from hu 1 (by decide))
      have e12 : A.eval (.tmp 12) = .int .i64 4 := (ev_in hA 12 2 rfl rfl rfl).trans (show f 2 = .int .i64 4 from hu 2 (by decide))
      have hsl := HSL.out W
      refine ph_sem rfl rfl (r := .ok (.value (.slice a 4 c)) W) ?_ (hK _ _ (gb_rr W _) rfl)
      have eC : ∀ c, A.eval (.const c) = c := fun _ => rfl; have eF : ∀ g, A.eval (.func g) = .func (.func g) #[] #[] := fun _ => rfl; generalize A.eval = ρ at *
      clear hA hu hg hK
      go_simp
    | 4, hin, ho, hu, hK =>
      cases ho
      have e13 : A.eval (.tmp 13) = .slice a 4 c := (ev_in hA 13 3 rfl rfl rfl).trans (show f 3 = .slice a 4 c from hu 3 (by decide))
      have hcv := HCV.out W hg
      refine ph_sem rfl rfl (r := .ok (.value (.string S)) W) ?_ (hK _ _ (gb_rr W _) rfl)
      have eC : ∀ c, A.eval (.const c) = c := fun _ => rfl; have eF : ∀ g, A.eval (.func g) = .func (.func g) #[] #[] := fun _ => rfl; generalize A.eval = ρ at *
      clear hA hu hg hK
      go_simp
    | 5, hin, ho, hu, hK =>
      cases ho
      have e6 : A.eval (.tmp 6) = .int .i64 4 := ev_out hA 6 rfl
      exact ph_move _ rfl rfl (.int .i64 4) e6 (hK _ _ (gb_rr W _) rfl)
    | 6, hin, ho, hu, hK =>
      cases ho
      have e15 : A.eval (.tmp 15) = .int .i64 4 := (ev_in hA 15 5 rfl rfl rfl).trans (show f 5 = .int .i64 4 from hu 5 (by decide))
      have hms := HMS.out W
      refine ph_sem rfl rfl (r := .ok (.value (.string M)) W) ?_ (hK _ _ (gb_rr W _) rfl)
      have eC : ∀ c, A.eval (.const c) = c := fun _ => rfl; have eF : ∀ g, A.eval (.func g) = .func (.func g) #[] #[] := fun _ => rfl; generalize A.eval = ρ at *
      clear hA hu hg hK
      go_simp
    | 7, hin, ho, hu, hK =>
      cases ho
      have e14 : A.eval (.tmp 14) = .string S := (ev_in hA 14 4 rfl rfl rfl).trans (show f 4 = .string S from hu 4 (by decide))
      have e16 : A.eval (.tmp 16) = .string M := (ev_in hA 16 6 rfl rfl rfl).trans (show f 6 = .string M from hu 6 (by decide))
      have heq := HEQ.out
      refine ph_sem rfl rfl (r := .ok (.value (.bool false)) W) ?_ (hK _ _ (gb_rr W _) rfl)
      have eC : ∀ c, A.eval (.const c) = c := fun _ => rfl; have eF : ∀ g, A.eval (.func g) = .func (.func g) #[] #[] := fun _ => rfl; generalize A.eval = ρ at *
      clear hA hu hg hK
      go_simp
    | i + 8, hin, ho, hu, hK => omega
  case last =>
    intro f W A hA hg hu o ho K hK
    cases ho
    have e10 : A.eval (.tmp 10) = .pointer (some ⟨g, 0, none⟩) := (ev_in hA 10 0 rfl rfl rfl).trans (show f 0 = .pointer (some ⟨g, 0, none⟩) from hu 0 (by decide))
    have e17 : A.eval (.tmp 17) = .bool false := (ev_in hA 17 7 rfl rfl rfl).trans (show f 7 = .bool false from hu 7 (by decide))
    refine ph_fnP 58 _ _ rfl rfl #[.pointer (some ⟨g, 0, none⟩), .bool false, .int .i64 92] (by simp [e10, e17]; rfl) (by kernel_rfl) ?_
    refine (Calls.mono (omust_no g o 92 W (HO.out W hg)) ?_)
    rintro _ W9 ⟨rfl, h9, h8⟩
    refine ⟨_, rfl, ?_⟩
    have H9 : Hid _ := And.intro h9 (gb_trans (gb_wide hg _) h8)
    clear h9 h8 hg hK hu
    subst hA
    exact ⟨rfl, rfl, H9.out⟩
end Go.Proofs.YtcdgfghcmeadgaaDoor
