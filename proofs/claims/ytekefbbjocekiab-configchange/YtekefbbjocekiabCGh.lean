/-
  What the law's own may answers: a chain that may be, in memory of its own. Conditions: the list can be read, and has at most 2^60 numbers.
-/
import Derived.Test.YtekefbbjocekiabCGz
namespace Go.Proofs.Ytekefbbjocekiab
open Go.RowKit
set_option linter.unusedVariables false

theorem nodup_le : ∀ (k : Nat) (xs : List Int), xs.Nodup → (∀ x ∈ xs, 1 ≤ x ∧ x ≤ (k : Int)) → xs.length ≤ k
  | 0, xs, _, h => by
    cases xs with
    | nil => exact Nat.le_refl _
    | cons x l => have := h x (by simp); omega
  | k + 1, xs, hn, h => by
    have h1 := nodup_le k (xs.erase ((k + 1 : Nat) : Int)) (hn.erase _) (fun x hx => by
      have h2 := h x (List.mem_of_mem_erase hx)
      have h3 : x ≠ ((k + 1 : Nat) : Int) := fun e => hn.not_mem_erase (e ▸ hx)
      omega)
    rw [List.length_erase] at h1
    split at h1 <;> omega
theorem GoodN.len {xs : List Int} (h : GoodN xs) : xs.length ≤ 8 := nodup_le 8 xs h.2 h.1
theorem GoodN.snoc {xs : List Int} {x : Int} (h : GoodN xs) (h1 : 1 ≤ x) (h2 : x ≤ 8) (hx : x ∉ xs) : GoodN (xs ++ [x]) := by
  refine ⟨fun y hy => ?_, List.nodup_append.2 ⟨h.2, by simp, fun a ha b hb e => ?_⟩⟩
  · rcases List.mem_append.1 hy with hy | hy
    · exact h.1 y hy
    · simp at hy; omega
  · simp at hb
    subst hb
    exact hx (e ▸ ha)
theorem goodN_3 : GoodN [3] := by decide
def thB (x : Int) (ys : List Int) (j : Nat) : Bool := decide (x ∈ ys.take j)
theorem thB_0 (x : Int) (ys : List Int) : thB x ys 0 = false := by simp [thB]
theorem thB_s {x y : Int} {ys : List Int} {j : Nat} (h : ys[j]? = some y) : thB x ys (j + 1) = (thB x ys j || (y == x)) := by
  unfold thB
  rw [List.take_add_one, h]
  simp only [Option.toList_some, List.mem_append, List.mem_singleton, Bool.decide_or]
  congr 1
  by_cases e : x = y
  · subst e; simp
  · rw [decide_eq_false e]; symm; simpa using fun q => e q.symm
theorem thB_end (x : Int) (ys : List Int) : thB x ys ys.length = decide (x ∈ ys) := by unfold thB; rw [List.take_length]
set_option maxRecDepth 20000 in
set_option maxHeartbeats 8000000 in
theorem may_c (a : Option Addr) (n c : Nat) (xs : List Int) (w : World) (h : Seg .i64 w a n xs) (hl : n ≤ 9223372036854775807) :
    Calls Try.prog 16 #[.slice a n c] w fun r w' => ∃ a' c' ys, r = .returned (.slice a' ys.length c') ∧ GoodN ys ∧ 1 ≤ ys.length ∧ OwI w.heap.size w' (.slice a' ys.length c') ys.length ys ∧ Below w.heap.size w w' := by
  have HS : Hid (Seg .i64 w a n xs) := h
  clear h
  go_enter Try.func16, Try.ntmps16
  go_wp2
  go_loopw [4, 3] (fun i o wr => ∃ (k : Nat) (ys : List Int) (a' : Option Addr) (c' : Nat), k ≤ n ∧ i = .int .i64 (k : Int) ∧ o = .slice a' ys.length c' ∧ Hid (GoodN ys ∧ OwI w.heap.size wr (.slice a' ys.length c') ys.length ys ∧ Below w.heap.size w wr)) (fun i _ _ => n - (intOf i).toNat)
  case atStart => exact ⟨0, [], none, 0, Nat.zero_le _, rfl, rfl, goodN_nil, owI_nil _ _, Below.refl _ _⟩
  case round =>
    obtain ⟨k, ys, a', c', hk, rfl, rfl, hr⟩ := hrel
    by_cases hlt : k < n
    · have hi1 : (k : Int) < n := by omega
      obtain ⟨ba, oa, x, rfl, hx, ca0⟩ := seg_at1 (HS.out.below hr.out.2.2) hlt
      have HX : Hid (∀ W, Below w.heap.size w W → W.cell? ⟨ba, oa + k, none⟩ = some (.int .i64 x)) := by
        show ∀ W, _
        intro W hb
        obtain ⟨b2, o2, y, e2, hy, cy⟩ := seg_at1 (HS.out.below hb) hlt
        cases e2
        rw [cy]
        rw [hx] at hy
        cases hy
        rfl
      have hw3 : wrap64 ((k : Int) + 1) = (k : Int) + 1 := IntWalk.wrap64_in _ ⟨by omega, by omega⟩
      clear hx ca0
      go_wp2
      obtain ⟨wo, hwo⟩ : ∃ W : World, W = wr := ⟨_, rfl⟩
      rw [← hwo] at hr ⊢
      clear hwo
      go_loopw [6, 5] (fun i t wr => ∃ j : Nat, j ≤ ys.length ∧ i = .int .i64 (j : Int) ∧ t = .bool (thB x ys j) ∧ Hid (OwI w.heap.size wr (.slice a' ys.length c') ys.length ys ∧ Below w.heap.size w wr)) (fun i _ _ => ys.length - (intOf i).toNat)
      case atStart => exact ⟨0, Nat.zero_le _, rfl, by rw [thB_0], hr.out.2⟩
      case round =>
        obtain ⟨j, hj, rfl, rfl, hq⟩ := hrel
        have hl8 : ys.length ≤ 8 := hr.out.1.len
        have hw4 : wrap64 ((j : Int) + 1) = (j : Int) + 1 := IntWalk.wrap64_in _ ⟨by omega, by omega⟩
        by_cases hjl : j < ys.length
        · have hi2 : (j : Int) < (ys.length : Int) := by omega
          obtain ⟨bb, ob, y, rfl, hy, cb⟩ := seg_at1 hq.out.1.segW.1 hjl
          have hcx := HX.out wr hq.out.2
          have HT : Hid (thB x ys (j + 1) = (thB x ys j || (y == x))) := thB_s hy
          have HD : Hid (∀ q, OwI w.heap.size (wr.drewN q) (.slice (some ⟨bb, ob, none⟩) ys.length c') ys.length ys ∧ Below w.heap.size w (wr.drewN q)) := fun q => ⟨hq.out.1.below (below_drewN (Below.refl _ _) q), below_drewN hq.out.2 q⟩
          clear hy
          cases ht : thB x ys j with
          | true =>
            rw [ht] at HT
            go_wp2_with fail
            go_quiet (fail)
            go_wp2
            go_roundw
            case rel => exact ⟨j + 1, by omega, by go_num, by rw [HT.out]; rfl, HD.out _⟩
            case measure => simp [intOf]; omega
          | false =>
            rw [ht] at HT
            cases hyx : (y == x) with
            | true =>
              rw [hyx] at HT
              go_wp2_with fail
              go_quiet (fail)
              go_wp2
              go_roundw
              case rel => exact ⟨j + 1, by omega, by go_num, by rw [HT.out]; rfl, HD.out _⟩
              case measure => simp [intOf]; omega
            | false =>
              rw [hyx] at HT
              go_wp2_with fail
              go_quiet (fail)
              go_wp2
              go_roundw
              case rel => exact ⟨j + 1, by omega, by go_num, by rw [HT.out]; rfl, HD.out _⟩
              case measure => simp [intOf]; omega
        · obtain rfl : j = ys.length := by omega
          have hi2 : ¬ ((ys.length : Int) < (ys.length : Int)) := by omega
          have hcx := HX.out wr hq.out.2
          rw [thB_end]
          by_cases hm : x ∈ ys
          · have hd : decide (x ∈ ys) = true := decide_eq_true hm
            rw [hd]
            clear hd hm
            go_wp2
            go_roundw
            case rel => exact ⟨k + 1, ys, a', c', by omega, by go_num, rfl, hr.out.1, hq.out⟩
            case measure => simp [intOf]; omega
          · have hd : decide (x ∈ ys) = false := decide_eq_false hm
            rw [hd]
            clear hd
            by_cases g1 : 1 ≤ x
            · have d1 : decide ((1 : Int) ≤ x) = true := decide_eq_true g1
              by_cases g2 : x ≤ 8
              · have d2 : decide (x ≤ (8 : Int)) = true := decide_eq_true g2
                have HN : Hid (GoodN (ys ++ [x])) := hr.out.1.snoc g1 g2 hm
                have HSX : Hid (∀ W : World, Seg .i64 (W.alloc (.cells #[.int .i64 x] 3)) (some ⟨W.heap.size, 0, none⟩) 1 [x]) := fun W => seg_new W .i64 _ _ 1 [x] rfl rfl
                clear g1 g2 hm
                go_wp2_with (at_builtin; go_must (refine wpList_append_growI _ rfl (.tmp 47) (.tmp 52) rfl w.heap.size ys.length _ ys rfl (hq.out.1.below (alloc_b _ _)) (some ⟨wr.heap.size, 0, none⟩) 1 1 [x] rfl (fun h => by cases h) (HSX.out wr) (by omega) (Nat.le_trans hq.out.2.size (alloc_b _ _).size) ?_); intro v2 w2 ho hb; obtain ⟨a2, c2, rfl, _⟩ := ho.seg; have H2 : Hid (OwI w.heap.size w2 (.slice a2 (ys.length + 1) c2) (ys.length + 1) (ys ++ [x]) ∧ Below w.heap.size w w2) := ⟨ho, (hq.out.2.trans ((alloc_b _ _).mono hq.out.2.size)).trans hb⟩; clear ho hb)
                have hlen : (ys ++ [x]).length = ys.length + 1 := by simp
                go_roundw
                case rel => exact ⟨k + 1, ys ++ [x], a2, c2, by omega, by go_num, by rw [hlen], HN.out, by rw [hlen]; exact H2.out⟩
                case measure => simp [intOf]; omega
              · have d2 : decide (x ≤ (8 : Int)) = false := decide_eq_false g2
                clear g1 g2 hm
                go_wp2
                go_roundw
                case rel => exact ⟨k + 1, ys, a', c', by omega, by go_num, rfl, hr.out.1, hq.out⟩
                case measure => simp [intOf]; omega
            · have d1 : decide ((1 : Int) ≤ x) = false := decide_eq_false g1
              clear g1 hm
              go_wp2
              go_roundw
              case rel => exact ⟨k + 1, ys, a', c', by omega, by go_num, rfl, hr.out.1, hq.out⟩
              case measure => simp [intOf]; omega
    · obtain rfl : k = n := by omega
      have hi1 : ¬ (k : Int) < k := by omega
      by_cases hz : ys.length = 0
      · have hb : ((ys.length : Int) == 0) = true := by simp [hz]
        have HN3 : Hid (Seg .i64 (wr.alloc (.cells #[.int .i64 3] 3)) (some ⟨wr.heap.size, 0, none⟩) 1 [3]) := seg_new wr .i64 _ _ 1 [3] rfl rfl
        clear hz
        go_wp2
        go_ret
        refine ⟨some ⟨wr.heap.size, 0, none⟩, 1, [3], rfl, goodN_3, Nat.le_refl _, ⟨rfl, .inr ⟨wr.heap.size, 1, #[.int .i64 3], rfl, hr.out.2.2.size, heap_new wr _, Nat.le_refl _, by decide, rfl, rfl⟩⟩, ?_⟩
        exact hr.out.2.2.trans ((alloc_b _ _).mono hr.out.2.2.size)
      · have hb : ((ys.length : Int) == 0) = false := by simp; exact fun e => hz (by rw [e]; rfl)
        go_wp2
        go_ret
        exact ⟨a', c', ys, rfl, hr.out.1, by omega, hr.out.2⟩
end Go.Proofs.Ytekefbbjocekiab
