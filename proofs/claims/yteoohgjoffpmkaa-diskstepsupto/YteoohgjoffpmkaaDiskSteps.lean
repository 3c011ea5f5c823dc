/-
  Proved: for all that is done with a disk, hawserlaw12.DiskSteps answers true: what is left of k steps and of one more differ in one file's being there or name, or one file's bytes; of Append in one byte at its end. Condition: the input is of bulk at most 1048576.
-/
import Derived.Test.YteoohgjoffpmkaaRows
import Derived.Test.YteoohgjoffpmkaaKSp
import Derived.WalkKit
import Derived.ProofKit
import Derived.OpenShut
import Derived.ShutString
import Derived.ChangeOld
import Derived.Below
import Derived.Lib.SmallJoins
import Derived.JoinedCond
namespace Go.Proofs.Yteoohgjoffpmkaa.diskSteps
open Go.ChangeShapes Go.WideShapes Go.ChangeAt Go.RowKit
set_option linter.unusedVariables false

theorem own : ownKnob Try.prog.godebug = none := by kernel_rfl
theorem laidOut : laidOutB Try.prog = true := by kernel_rfl

/-- has, beside the lists that are kept. -/
theorem sy_has {w W : World} {g N : Nat} {Ls} {D : Dk} {u v : Value} {A B : List FiM} {f : FiM} (h : Sy w g N Ls D W) (hA : (u, A) ∈ Ls) (hB : (v, B) ∈ Ls) (hf : f ∈ B) : Calls Try.prog 26 #[u, .agg #[.string f.s, f.u]] W fun r w' => (∃ T : Bool, r = .returned (.bool T) ∧ (T = true ↔ f.p ∈ A.map FiM.p)) ∧ Sy w g N Ls D w' := by
  have h0 := h
  obtain ⟨S, j, h1, h2, h3⟩ := h
  obtain ⟨a1, a2⟩ := h3 _ hA
  obtain ⟨b1, b2⟩ := h3 _ hB
  refine Calls.mono (has_fil a1 b1 hf a2) ?_
  rintro r w' ⟨hT, k⟩
  exact ⟨hT, h0.gone k⟩
theorem sy_at {w W : World} {g N : Nat} {Ls} {D : Dk} {a : Option Addr} {n c : Nat} {B : List FiM} (h : Sy w g N Ls D W) (hB : (.slice a n c, B) ∈ Ls) : n = B.length ∧ n ≤ 67108864 ∧ ∀ i f, B[i]? = some f → ∃ b off, a = some ⟨b, off, none⟩ ∧ W.cell? ⟨b, off + i * 2, none⟩ = some (.string f.s) ∧ W.cell? ⟨b, off + i * 2 + 1, none⟩ = some f.u ∧ f ∈ B ∧ ∃ ua m uc, f.u = .slice ua m uc := by
  obtain ⟨S, j, h1, h2, h3⟩ := h
  obtain ⟨b1, b2⟩ := h3 _ hB
  obtain ⟨a', c', e, rB, _⟩ := b1.read
  have e' : (Value.slice a n c) = .slice a' B.length c' := e
  cases e'
  refine ⟨rfl, b2, fun i f hf => ?_⟩
  obtain ⟨b, off, ua, uc, q1, q2, q3, q4, q5, _⟩ := rB i f hf
  exact ⟨b, off, q1, q3, q4, List.mem_of_getElem? hf, ua, _, uc, q5⟩
/-- A count of those in a beginning of a list that are not among others. -/
def Cnted (A B : List FiM) (i c : Nat) : Prop := ∃ Q : List (ByteArray × List Int), Q.Sublist ((A.map FiM.p).take i) ∧ Q.length = c ∧ (∀ x ∈ Q, x ∉ B.map FiM.p) ∧ ∀ x ∈ (A.map FiM.p).take i, x ∉ B.map FiM.p → x ∈ Q
theorem cnted_none (A B : List FiM) : Cnted A B 0 0 := ⟨[], by simp, rfl, by simp, by simp⟩
theorem Cnted.yes {A B : List FiM} {i c : Nat} {f : FiM} (h : Cnted A B i c) (hf : A[i]? = some f) (hm : f.p ∈ B.map FiM.p) : Cnted A B (i + 1) c := by
  obtain ⟨Q, h1, h2, h3, h4⟩ := h
  have e : (A.map FiM.p).take (i + 1) = (A.map FiM.p).take i ++ [f.p] := by rw [List.take_add_one, List.getElem?_map, hf]; rfl
  refine ⟨Q, by rw [e]; exact h1.trans (List.sublist_append_left _ _), h2, h3, fun x hx hn => ?_⟩
  rw [e] at hx
  rcases List.mem_append.1 hx with q | q
  · exact h4 x q hn
  · simp at q; rw [q] at hn; exact absurd hm hn
theorem Cnted.no {A B : List FiM} {i c : Nat} {f : FiM} (h : Cnted A B i c) (hf : A[i]? = some f) (hm : ¬ f.p ∈ B.map FiM.p) : Cnted A B (i + 1) (c + 1) := by
  obtain ⟨Q, h1, h2, h3, h4⟩ := h
  have e : (A.map FiM.p).take (i + 1) = (A.map FiM.p).take i ++ [f.p] := by rw [List.take_add_one, List.getElem?_map, hf]; rfl
  refine ⟨Q ++ [f.p], by rw [e]; exact h1.append (List.Sublist.refl _), by simp [h2], fun x hx => ?_, fun x hx hn => ?_⟩
  · rcases List.mem_append.1 hx with q | q
    · exact h3 x q
    · simp at q; rw [q]; exact hm
  · rw [e] at hx
    rcases List.mem_append.1 hx with q | q
    · exact List.mem_append.2 (.inl (h4 x q hn))
    · exact List.mem_append.2 (.inr q)
theorem Cnted.le {A B : List FiM} {i c : Nat} (h : Cnted A B i c) (hf : ∀ Q : List (ByteArray × List Int), Q.Sublist (A.map FiM.p) → (∀ x ∈ Q, x ∉ B.map FiM.p) → Q.length ≤ 2) : c ≤ 2 := by
  obtain ⟨Q, h1, h2, h3, _⟩ := h
  rw [← h2]
  exact hf Q (h1.trans (List.take_sublist _ _)) h3
theorem Cnted.pos {A B : List FiM} {c : Nat} (h : Cnted A B A.length c) (hx : ∃ x, x ∈ A.map FiM.p ∧ x ∉ B.map FiM.p) : 1 ≤ c := by
  obtain ⟨Q, h1, h2, h3, h4⟩ := h
  obtain ⟨x, q1, q2⟩ := hx
  have := h4 x (by rw [List.take_of_length_le (by simp)]; exact q1) q2
  rw [← h2]
  exact List.length_pos_of_mem this
set_option maxRecDepth 20000 in
set_option maxHeartbeats 8000000 in
theorem walk (a : Option Addr) (n cap : Nat) (X : List Dop) (w : World) (hX : DOps w a n X) (hw : dopsW X ≤ 1048576) :
    Calls Try.prog 6 #[.slice a n cap] w fun e w' => e = .returned (.bool true) ∧ Below w.heap.size w w' := by
  obtain ⟨hs1, hs2⟩ := dops_sm hX hw
  have HX : Hid (DOps w a n X ∧ (∀ o ∈ X, o.sm) ∧ n ≤ 1048576) := ⟨hX, hs1, hs2⟩
  have HW : Hid _ := sy_works 5000 w (by decide) (by decide)
  clear hX hw hs1 hs2
  go_enter Try.func6, Try.ntmps6
  go_wp2_with (first
    | ((fail_if_success (have z := H0)); go_at_call 14; go_must (refine (Calls.mono HW.out ?_)); rintro r w0 ⟨g, rfl, k1⟩; have H0 : Hid (Sy w g 2 [] (dkW 5000) w0) := k1; clear k1)
    | ((fail_if_success (have z := H1)); have zz := H0; clear zz; go_at_call 23; go_must (refine (Calls.mono (sy_only cap H0.out HX.out.1 HX.out.2.1 (by have := HX.out.2.2; omega) (by decide)) ?_)); rintro r w1 ⟨b1, m1, c1, Y, rfl, k1, k2, k3⟩; have H1 : Hid ((∀ o ∈ Y, o.few) ∧ Calls Try.prog 15 #[.pointer (some ⟨g, 0, none⟩), .slice b1 m1 c1] w1 fun r w2 => r = .returned (.tuple #[]) ∧ ∃ D', PlR (dkW 5000) Y D' ∧ Sy w g 62 [] D' w2) := ⟨k1, k3⟩; clear k1 k2 k3)
    | ((fail_if_success (have z := H2)); have zz := H1; clear zz; go_at_call 15; go_must (refine (Calls.mono H1.out.2 ?_)); rintro r w2 ⟨rfl, D, k1, k2⟩; obtain ⟨M, hM⟩ := play_steps H1.out.1 k1; obtain ⟨q1, _⟩ := play_plain H1.out.1 rfl k1; have H2 : Hid (Sy w g 62 [] D w2 ∧ D.steps = ⟨1, fst_, fst_, [], 0⟩ :: ⟨2, fst_, fst_, one_, 0⟩ :: M ∧ D.last = fun _ => none) := ⟨k2, hM, q1⟩; have hcn : 4 ≤ scnts D.steps := (by rw [hM]; show 4 ≤ 1 + (3 + scnts M); omega); have hcx : scnts D.steps ≤ 4160749568 := sy_cnt k2; clear k1 k2 hM q1)
    | ((fail_if_success (have z := H3)); have zz := H2; clear zz; go_at_call 19; go_must (refine (Calls.mono (sy_pending H2.out.1) ?_)); rintro r wq ⟨rfl, hq⟩; obtain rfl := hq.symm; clear hq; have H3 : Hid True := trivial))
  have HD : Hid (D.steps = ⟨1, fst_, fst_, [], 0⟩ :: ⟨2, fst_, fst_, one_, 0⟩ :: M ∧ D.last = fun _ => none) := H2.out.2
  have HS0 : Hid (Sy w g 62 [] D w2) := H2.out.1
  obtain ⟨m, hm⟩ : ∃ m, m = scnts D.steps := ⟨_, rfl⟩
  have HM : Hid (m = scnts D.steps) := hm
  rw [← hm] at hcn hcx ⊢
  clear hm H0 H1 H2 H3 HW HX
  have hm4 : ¬ (m : Int) < 4 := by omega
  go_wp2
  go_loopw [5, 6] (fun v i wr => ∃ k G : Nat, k ≤ m ∧ v = .int .i64 G ∧ i = .int .i64 k ∧ G ≤ 2 * k ∧ (k ≤ G ∨ 4 ≤ G) ∧ Hid (Sy w g 62 [] D wr)) (fun _ i _ => m - (intOf i).toNat)
  case atStart => exact ⟨0, 0, Nat.zero_le _, rfl, rfl, Nat.le_refl _, .inl (Nat.le_refl _), HS0.out⟩
  case round =>
    obtain ⟨k, G, hk, rfl, rfl, hG1, hG2, HI⟩ := hrel
    clear HS0
    by_cases hlt : k < m
    · have hk1 : (k : Int) < (m : Int) := by omega
      have hsum : ((k : Int) + 1).toNat = k + 1 := by omega
      go_wp2_with (first
        | ((fail_if_success (have z := H4)); go_at_call 22; go_must (refine (Calls.mono (sy_left _ HI.out (by omega) (by omega) (by decide)) ?_)); rintro r w4 ⟨a7, n7, c7, L7, rfl, k1, k2⟩; rw [Int.toNat_natCast] at k1; have H4 : Hid (Sy w g 62 [(.slice a7 n7 c7, L7)] D w4 ∧ Lst (sfirst D.last D.steps k) (L7.map FiM.p)) := ⟨k2, k1⟩; clear k1 k2)
        | ((fail_if_success (have z := H5)); have zz := H4; clear zz; go_at_call 22; go_must (refine (Calls.mono (sy_left _ H4.out.1 (by omega) (by omega) (by decide)) ?_)); rintro r w5 ⟨a8, n8, c8, L8, rfl, k1, k2⟩; go_must (rw [hsum] at k1); have H5 : Hid (Sy w g 62 [(.slice a8 n8 c8, L8), (.slice a7 n7 c7, L7)] D w5 ∧ Lst (sfirst D.last D.steps (k + 1)) (L8.map FiM.p)) := ⟨k2, k1⟩; clear k1 k2))
      have HFB : Hid (_) := few_both H4.out.2 H5.out.2 (stp1_first D.steps D.last k H5.out.1.ok.ok)
      have HNW : Hid (k < 4 → ∃ x, x ∈ L8.map FiM.p ∧ x ∉ L7.map FiM.p) := fun h4 => first_new k h4 HD.out.2 HD.out.1 H4.out.2 H5.out.2
      obtain ⟨hn7, hl7, -⟩ := sy_at (a := a7) (n := n7) (c := c7) (B := L7) H5.out.1 (by simp)
      obtain ⟨hn8, hl8, -⟩ := sy_at (a := a8) (n := n8) (c := c8) (B := L8) H5.out.1 (by simp)
      have HNN : Hid (n7 = L7.length ∧ n8 = L8.length) := ⟨hn7, hn8⟩
      have hd1 : n8 ≤ n7 + 1 ∧ n7 ≤ n8 + 1 := by
        have := HFB.out.2.2
        rw [List.length_map, List.length_map] at this
        omega
      have HS5 : Hid (Sy w g 62 [(.slice a8 n8 c8, L8), (.slice a7 n7 c7, L7)] D w5) := H5.out.1
      clear hn7 hn8 H4 H5 HI
      go_loopw [9, 10] (fun c i wr => ∃ j q : Nat, j ≤ n7 ∧ c = .int .i64 q ∧ i = .int .i64 j ∧ q ≤ 2 ∧ Hid (Cnted L7 L8 j q ∧ Sy w g 62 [(.slice a8 n8 c8, L8), (.slice a7 n7 c7, L7)] D wr)) (fun _ i _ => n7 - (intOf i).toNat)
      case atStart => exact ⟨0, 0, Nat.zero_le _, rfl, rfl, Nat.zero_le _, cnted_none _ _, HS5.out⟩
      case round =>
        obtain ⟨j, q, hj, rfl, rfl, hq, HI⟩ := hrel
        by_cases hlj : j < n7
        · obtain ⟨f, hf⟩ : ∃ f, L7[j]? = some f := ⟨_, List.getElem?_eq_getElem (by have := HNN.out.1; omega)⟩
          obtain ⟨-, -, hat⟩ := sy_at (a := a7) (n := n7) (c := c7) (B := L7) HI.out.2 (by simp)
          obtain ⟨b, off, hab, e0, e1, hfm, ua, mm, uc, hu⟩ := hat j f hf
          have HHS : Hid (∀ T : Bool, (T = true ↔ f.p ∈ L8.map FiM.p) → (T = true → Cnted L7 L8 (j + 1) q) ∧ (T = false → Cnted L7 L8 (j + 1) (q + 1))) := fun T hT => ⟨fun e => HI.out.1.yes hf (hT.1 e), fun e => HI.out.1.no hf (fun hm => by rw [hT.2 hm] at e; cases e)⟩
          have HCA : Hid (Calls Try.prog 26 #[.slice a8 n8 c8, .agg #[.string f.s, f.u]] wr fun r w' => (∃ T : Bool, r = .returned (.bool T) ∧ (T = true ↔ f.p ∈ L8.map FiM.p)) ∧ Sy w g 62 [(.slice a8 n8 c8, L8), (.slice a7 n7 c7, L7)] D w') := sy_has (v := .slice a7 n7 c7) (A := L8) (B := L7) HI.out.2 (by simp) (by simp) hfm
          rw [hu] at HCA e1
          have HAB : Hid _ := hab
          obtain ⟨s, hs⟩ : ∃ s, s = f.s := ⟨_, rfl⟩
          rw [← hs] at HCA e0
          clear hat hfm hu hf hs
          have i1 : (0 : Int) ≤ (j : Int) := by omega
          have i2 : (j : Int) < (n7 : Int) := by omega
          rw [hab]
          clear hab
          go_wp2_with (go_at_call 26; go_must (refine (Calls.mono (by first | exact HCA.out | (rw [← HAB.out]; exact HCA.out)) ?_)); rintro r w7 ⟨⟨T, rfl, hT⟩, k1⟩; have H7 : Hid (Sy w g 62 [(.slice a8 n8 c8, L8), (.slice a7 n7 c7, L7)] D w7) := k1; have H8 : Hid ((T = true → Cnted L7 L8 (j + 1) q) ∧ (T = false → Cnted L7 L8 (j + 1) (q + 1))) := HHS.out T hT; clear k1 hT; cases T)
          all_goals try rw [← HAB.out]
          · have H9 : Hid (Cnted L7 L8 (j + 1) (q + 1) ∧ q + 1 ≤ 2) := ⟨H8.out.2 (by trivial), (H8.out.2 (by trivial)).le HFB.out.1⟩
            go_roundw
            case rel => exact ⟨j + 1, q + 1, by omega, by go_num, by go_num, H9.out.2, H9.out.1, H7.out⟩
            case measure => simp [intOf]; omega
          · have H9 : Hid (Cnted L7 L8 (j + 1) q) := H8.out.1 (by trivial)
            go_roundw
            case rel => exact ⟨j + 1, q, by omega, by go_num, by go_num, hq, H9.out, H7.out⟩
            case measure => simp [intOf]; omega
        · obtain rfl : j = n7 := by omega
          have HS6 : Hid (Sy w g 62 [(.slice a8 n8 c8, L8), (.slice a7 j c7, L7)] D wr) := HI.out.2
          have hq2 : ¬ (q : Int) > 2 := by omega
          clear HI HS5
          go_wp2
          go_loopw [5, 11] (fun c i wr => ∃ i2 p : Nat, i2 ≤ n8 ∧ c = .int .i64 ((G + p : Nat) : Int) ∧ i = .int .i64 i2 ∧ p ≤ 2 ∧ Hid (Cnted L8 L7 i2 p ∧ Sy w g 62 [(.slice a8 n8 c8, L8), (.slice a7 j c7, L7)] D wr)) (fun _ i _ => n8 - (intOf i).toNat)
          case atStart => exact ⟨0, 0, Nat.zero_le _, rfl, rfl, Nat.zero_le _, cnted_none _ _, HS6.out⟩
          case round =>
            obtain ⟨i2, p, hi2, rfl, rfl, hp, HI⟩ := hrel
            clear HS6
            by_cases hli : i2 < n8
            · obtain ⟨f, hf⟩ : ∃ f, L8[i2]? = some f := ⟨_, List.getElem?_eq_getElem (by have := HNN.out.2; omega)⟩
              obtain ⟨-, -, hat⟩ := sy_at (a := a8) (n := n8) (c := c8) (B := L8) HI.out.2 (by simp)
              obtain ⟨b, off, hab, e0, e1, hfm, ua, mm, uc, hu⟩ := hat i2 f hf
              have HHS : Hid (∀ T : Bool, (T = true ↔ f.p ∈ L7.map FiM.p) → (T = true → Cnted L8 L7 (i2 + 1) p) ∧ (T = false → Cnted L8 L7 (i2 + 1) (p + 1))) := fun T hT => ⟨fun e => HI.out.1.yes hf (hT.1 e), fun e => HI.out.1.no hf (fun hm => by rw [hT.2 hm] at e; cases e)⟩
              have HCA : Hid (Calls Try.prog 26 #[.slice a7 j c7, .agg #[.string f.s, f.u]] wr fun r w' => (∃ T : Bool, r = .returned (.bool T) ∧ (T = true ↔ f.p ∈ L7.map FiM.p)) ∧ Sy w g 62 [(.slice a8 n8 c8, L8), (.slice a7 j c7, L7)] D w') := sy_has (v := .slice a8 n8 c8) (A := L7) (B := L8) HI.out.2 (by simp) (by simp) hfm
              rw [hu] at HCA e1
              have HAB : Hid _ := hab
              obtain ⟨s, hs⟩ : ∃ s, s = f.s := ⟨_, rfl⟩
              rw [← hs] at HCA e0
              clear hat hfm hu hf hs
              have i3 : (0 : Int) ≤ (i2 : Int) := by omega
              have i4 : (i2 : Int) < (n8 : Int) := by omega
              obtain ⟨V, hV⟩ : ∃ V, V = G + p := ⟨_, rfl⟩
              have HV : Hid (V = G + p) := hV
              have hVb : V ≤ 8321499138 := by omega
              rw [← hV]
              clear hV
              rw [hab]
              clear hab
              go_wp2_with (go_at_call 26; go_must (refine (Calls.mono (by first | exact HCA.out | (rw [← HAB.out]; exact HCA.out)) ?_)); rintro r w7 ⟨⟨T, rfl, hT⟩, k1⟩; have H7 : Hid (Sy w g 62 [(.slice a8 n8 c8, L8), (.slice a7 j c7, L7)] D w7) := k1; have H8 : Hid ((T = true → Cnted L8 L7 (i2 + 1) p) ∧ (T = false → Cnted L8 L7 (i2 + 1) (p + 1))) := HHS.out T hT; clear k1 hT; cases T)
              all_goals try rw [← HAB.out]
              · have H9 : Hid (Cnted L8 L7 (i2 + 1) (p + 1) ∧ p + 1 ≤ 2) := ⟨H8.out.2 (by trivial), (H8.out.2 (by trivial)).le HFB.out.2.1⟩
                go_roundw
                case rel => exact ⟨i2 + 1, p + 1, by omega, by have := HV.out; subst this; first | go_num | (simp; omega), by go_num, H9.out.2, H9.out.1, H7.out⟩
                case measure => simp [intOf]; omega
              · have H9 : Hid (Cnted L8 L7 (i2 + 1) p) := H8.out.1 (by trivial)
                go_roundw
                case rel => exact ⟨i2 + 1, p, by omega, by have := HV.out; subst this; rfl, by go_num, hp, H9.out, H7.out⟩
                case measure => simp [intOf]; omega
            · obtain rfl : i2 = n8 := by omega
              have H9 : Hid (Sy w g 62 [] D wr) := HI.out.2.less (by simp)
              have hpos : k < 4 → 1 ≤ p := fun h4 => by
                have h5 := HI.out.1
                rw [HNN.out.2] at h5
                exact h5.pos (HNW.out h4)
              have g1 : ¬ (i2 : Int) > (j : Int) + 1 := by omega
              have g2 : ¬ (j : Int) > (i2 : Int) + 1 := by omega
              obtain ⟨V, hV⟩ : ∃ V, V = G + p := ⟨_, rfl⟩
              rw [← hV]
              have hV1 : V ≤ 2 * (k + 1) ∧ (k + 1 ≤ V ∨ 4 ≤ V) := by
                by_cases h4 : k < 4
                · have := hpos h4; omega
                · omega
              clear HI hpos hV
              go_wp2
              go_roundw
              case rel => exact ⟨k + 1, V, by omega, rfl, by go_num, hV1.1, hV1.2, H9.out⟩
              case measure => simp [intOf]; omega
    · obtain rfl : k = m := by omega
      have g4 : (4 : Int) ≤ (G : Int) := by omega
      have HS9 : Hid (Sy w g 62 [] D wr) := HI.out
      clear HI
      go_wp2_with (first
        | ((fail_if_success (have z := F1)); go_at_call 22; go_must (refine (Calls.mono (sy_left _ HS9.out (by omega) (by omega) (by decide)) ?_)); rintro r x1 ⟨b1, m1, e1, M1, rfl, k1, k2⟩; go_must (rw [Int.toNat_natCast, left_all HS9.out.ok _ (Nat.le_of_eq HM.out.symm)] at k1); have F1 : Hid (Sy w g 62 [(.slice b1 m1 e1, M1)] D x1 ∧ Lst D.seen (M1.map FiM.p)) := ⟨k2, k1⟩; clear k1 k2)
        | ((fail_if_success (have z := F2)); have zz := F1; clear zz; go_at_call 20; go_must (refine (Calls.mono (sy_files F1.out.1) ?_)); rintro r x2 ⟨b2, m2, e2, M2, rfl, k1, k2⟩; have F2 : Hid (Sy w g 62 [(.slice b2 m2 e2, M2), (.slice b1 m1 e1, M1)] D x2 ∧ M1.map FiM.p = M2.map FiM.p) := ⟨k2, F1.out.2.uniq k1⟩; clear k1 k2)
        | ((fail_if_success (have z := F3)); have zz := F2; clear zz; go_at_call 21; go_must (refine (Calls.mono (sy_equal (A := M1) (B := M2) F2.out.1 (by simp) (by simp)) ?_)); rintro r x3 ⟨hr, k1⟩; rw [decide_eq_true F2.out.2] at hr; subst hr; have F3 : Hid (Sy w g 62 [] D x3) := k1.less (by simp); clear k1)
        | ((fail_if_success (have z := F4)); have zz := F3; clear zz; go_at_call 22; go_must (refine (Calls.mono (sy_left 0 F3.out (by decide) (by decide) (by decide)) ?_)); rintro r x4 ⟨b4, m4, e4, M4, rfl, k1, k2⟩; go_must (rw [show ((0 : Int)).toNat = 0 from rfl, left_zero, HD.out.2] at k1); have F4 : Hid (Below w.heap.size w x4) := k2.bel; have hz : m4 = 0 := (by
            have e5 : M4.map FiM.p = [] := k1.uniq lst_none
            obtain ⟨e6, -⟩ := sy_at (a := b4) (n := m4) (c := e4) (B := M4) k2 (by simp)
            have e7 := congrArg List.length e5
            rw [List.length_map] at e7
            exact e6.trans e7); subst hz; clear k1 k2))
      go_ret
      exact ⟨rfl, F4.out⟩

theorem bulk_len {H : Type} (l : List (DataW H)) : l.length ≤ Rows.uptoBulkAll l := by
  induction l with
  | nil => simp
  | cons d r ih =>
    have : 1 ≤ Rows.uptoBulk d := by
      cases d with
      | lit x => cases x <;> simp [Rows.uptoBulk]
      | _ => simp [Rows.uptoBulk]
    simp only [Rows.uptoBulkAll, List.length_cons]; omega
theorem bulk_mem {H : Type} {d : DataW H} {l : List (DataW H)} (h : d ∈ l) : Rows.uptoBulk d ≤ Rows.uptoBulkAll l := by
  induction l with
  | nil => cases h
  | cons x r ih =>
    simp only [Rows.uptoBulkAll]
    rcases List.mem_cons.1 h with rfl | h
    · omega
    · have := ih h; omega
theorem bulk_slice {H : Type} {ds : List (DataW H)} {d : DataW H} {l r : List (DataW H)} (hk : Rows.uptoSmall H ds = true) (hd : d ∈ ds) (e : d = .slice l r) : l.length + r.length ≤ 1048576 := by
  have h0 : Rows.uptoBulkAll ds ≤ 1048576 := of_decide_eq_true hk
  have h1 := bulk_mem hd
  have h3 := bulk_len l
  have h4 := bulk_len r
  rw [e] at h1
  simp only [Rows.uptoBulk] at h1
  omega

set_option maxRecDepth 100000 in
theorem lifted (os : Os) (started : os.Started) (H : Type) (enc : TypeId × Value → H) (F : Stop.Interp) :
    ReturnsInHanded {} Try.checked os 6 .any ((Rows.OpenSpec.upto Rows.diskStepsSpec).pre6 enc Try.prog Try.f6 Rows.diskStepsUptoRow.domain false) (((Rows.OpenSpec.upto Rows.diskStepsSpec).at F).post enc Try.prog Try.f6 false true false false) := by
  refine returnsInHanded_of_cond (C := Try.checked) (s := Rows.OpenSpec.upto Rows.diskStepsSpec) (k := Rows.uptoSmall) rfl own started (by kernel_rfl) Try.func6
    (OpenSpec.witness (enc := enc) (C := Try.checked) (s := Rows.OpenSpec.upto Rows.diskStepsSpec) (k := Rows.uptoSmall) rfl false ⟨#[], #[.slice none 0 0], []⟩ 8 (by kernel_rfl) (by kernel_rfl) (by kernel_rfl)
      (x := ([.nil], [], [])) (by kernel_rfl) rfl (by kernel_rfl)) ?_
  intro W base args ds gs before hval0 hW hcnd hk _
  have hval : ∀ (j : Nat) t v, Try.f6.params[j]? = some t → args[j]? = some v → Value.okWide Try.prog W .any base t v := hval0
  have hW' := hW
  obtain ⟨p, q, hA0, hV, rfl, hfz, hnd⟩ := hW
  have hA : DataW.TrodAll enc Try.prog W 0 (fun _ => true) true Try.f6.params.toList args.toList ds p := hA0
  rw [Try.params6] at hA hval
  obtain ⟨v0, vs0, d0, ds0, p0, q0, hargs, rfl, rfl, h0, r0⟩ := trodAll_cons hA
  obtain ⟨rfl, rfl, rfl⟩ := trodAll_nil r0
  obtain rfl : args = #[v0] := by cases args; simp_all
  obtain ⟨rfl, rfl⟩ := trodVars_none hV
  have k0 := h0
  have lt0 : ∀ x ∈ p0, x.block < W.heap.size := by obtain ⟨m, hm⟩ := k0; exact DataW.trod_lt m _ _ _ hm
  obtain ⟨a0, n0, cap0, X0, rfl, x0, y0⟩ : ∃ a n cap X, v0 = .slice a n cap ∧ DOps W a n X ∧ dopsW X ≤ 1048576 := by
    obtain ⟨sa, sl, sc, hv⟩ := okWide_slice Try.underlying23 (hval 0 23 v0 rfl rfl)
    obtain ⟨a, n, cap, X, h1, h2, h3, h4, h5, h6⟩ := dops_open sa sl sc hv h0
    have hAll : Rows.uptoBulkAll _ ≤ 1048576 := of_decide_eq_true hk
    exact ⟨a, n, cap, X, h1, h2, Nat.le_trans h6 (Nat.le_trans (bulk_mem (show d0 ∈ _ by simp)) hAll)⟩
  clear hA0 hval0
  refine (walk a0 n0 cap0 X0 W x0 y0).mono fun e W' ⟨he, bel⟩ => ?_
  subst he
  exact ⟨_, rfl, _, _, _, [], _, [], hW', trodAll_mk1 (shut_bool Try.underlying4 _), (trodAll_cons_mk (Below.trod laidOut (by kernel_rfl) (of_decide_eq_true (by kernel_rfl)) k0 bel lt0) trodAll_mk0), rfl, bel.frame _, fun h => by cases h⟩

theorem over : Rows.diskStepsUptoRow.holds Try.pinned (Rows.OpenSpec.upto Rows.diskStepsSpec) :=
  OpenClaim.holds_of_cond 6 Try.f6 rfl rfl rfl rfl rfl rfl rfl ⟨rfl, rfl, rfl, rfl, rfl⟩ rfl rfl rfl rfl rfl (by kernel_rfl) Try.func6 (by kernel_rfl)
    (of_decide_eq_true (by kernel_rfl)) (by unfold Func.isWrapper; first | (rw [if_pos (by decide +kernel)]; kernel_rfl) | (rw [if_neg (by decide +kernel)]; exact ⟨rfl, rfl⟩))
    (fun os started H enc _ F => lifted os started H enc F)

end Go.Proofs.Yteoohgjoffpmkaa.diskSteps
namespace Go.Proofs.Yteoohgjoffpmkaa
theorem diskSteps_holds : Rows.DiskStepsUptoSaid := diskSteps.over
#print axioms diskSteps_holds
end Go.Proofs.Yteoohgjoffpmkaa
