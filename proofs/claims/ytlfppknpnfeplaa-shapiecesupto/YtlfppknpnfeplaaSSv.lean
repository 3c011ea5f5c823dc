/-
  What a state's save answers: two letters, its size as a number's bytes, its words, and what stands behind the last whole block. Condition: fewer than 2^62 bytes were taken.
-/
import Derived.Test.YtlfppknpnfeplaaMHw
import Derived.Test.YtlfppknpnfeplaaSOw
import Derived.Test.YtlfppknpnfeplaaTSs
import Derived.Deep.RegionLaw
namespace Go.Proofs.Ytlfppknpnfeplaa
set_option linter.unusedVariables false
open Go.RowKit

/-- A number's bytes, in groups of seven bits. -/
def nbF : Nat → Nat → List Int
  | 0, n => [(n : Int)]
  | f + 1, n => if n < 128 then [(n : Int)] else ((n % 128 + 128 : Nat) : Int) :: nbF f (n / 128)
def nb (n : Nat) : List Int := nbF 9 n
def svB (p : St × List Int) (n : Nat) : List Int := [104, 115] ++ nb n ++ p.1.words.flatMap b4 ++ p.2
theorem nbF_len : ∀ (f n : Nat), (nbF f n).length ≤ f + 1
  | 0, n => by simp [nbF]
  | f + 1, n => by
    unfold nbF
    split
    · simp
    · have := nbF_len f (n / 128); simp; omega
theorem nbF_big {f n : Nat} (h : 128 ≤ n) : nbF (f + 1) n = ((n % 128 + 128 : Nat) : Int) :: nbF f (n / 128) := by
  show (if n < 128 then _ else _) = _
  rw [if_neg (by omega)]
theorem nbF_small {f n : Nat} (h : n < 128) : nbF f n = [(n : Int)] := by
  cases f with
  | zero => rfl
  | succ f => show (if n < 128 then _ else _) = _; rw [if_pos h]
theorem b4s_len (s : St) : (s.words.flatMap b4).length = 32 := by simp [St.words, b4]
theorem u8_or128 (m : Nat) : bits .or .u8 ((m : Int) % 256) 128 = ((m % 128 + 128 : Nat) : Int) := by
  have h : (m : Int) % 256 = ((m % 256 : Nat) : Int) := by omega
  have : ∀ n : Fin 256, bits .or .u8 ((n.val : Nat) : Int) 128 = ((n.val % 128 + 128 : Nat) : Int) := by decide +kernel
  rw [h, this ⟨m % 256, by omega⟩]
  congr 2
  simp only
  omega
theorem own_two (w : World) (x y : Int) : Own w.heap.size (w.alloc (.cells #[.int .u8 x, .int .u8 y] 5)) (.slice (some ⟨w.heap.size, 0, none⟩) 2 2) 2 [x, y] :=
  ⟨rfl, .inr ⟨w.heap.size, 2, _, rfl, Nat.le_refl _, heap_new w _, Nat.le_refl _, by decide, rfl, rfl⟩⟩
theorem seg_words {T : TypeId} {pre : List Value} {w : World} {g : Nat} {s : St} {rs : List Int} {n : Int} (h : Sta T pre w g s rs n) : Seg .u32 w (some ⟨g, pre.length, none⟩) 8 (s.words.map W) := by
  refine ⟨by simp [words_len], .inr ⟨g, pre.length, rfl, h.lt, fun i hi => ?_⟩⟩
  rw [h.word i hi]
  have : i < s.words.length := by rw [words_len]; exact hi
  simp [this]
theorem seg_rest {T : TypeId} {pre : List Value} {w : World} {g : Nat} {p : St × List Int} {n : Nat} (h : Hs T pre w g p n) : Seg .u8 w (some ⟨g, pre.length + 8, none⟩) (n % 64) p.2 := by
  refine ⟨h.2, .inr ⟨g, pre.length + 8, rfl, h.1.lt, fun i hi => ?_⟩⟩
  rw [h.1.rest i (by omega)]
  have h1 : i < p.2.length := by rw [h.2]; exact hi
  congr 2
  unfold rz
  rw [List.getD_eq_getElem?_getD, List.getElem?_append_left h1]
theorem infoU8v : (Try.prog.info? 5).map (fun i => (i.zero, i.size, i.bytes)) = some (some (.int .u8 0), 1, 1) := by kernel_rfl
theorem map_one {f : Operand → Value} {x : Operand} {v : Value} (h : f x = v) : (#[x] : Array Operand).map f = #[v] := by simp [h]
theorem div_pow {m f : Nat} (h : m < 128 ^ (f + 1)) : m / 128 < 128 ^ f := by
  rw [Nat.pow_succ] at h
  exact Nat.div_lt_of_lt_mul (by rw [Nat.mul_comm]; exact h)
theorem gb_behindS {w wr w' : World} {g : Nat} (h : w.grownBy wr none) (hb : Below g wr w') (hg : w.heap.size ≤ g) : w.grownBy w' none :=
  ⟨hb.os.trans h.os, hb.tape.trans h.tape, hb.output.trans h.output, Nat.le_trans h.size hb.size, fun i hi hn => (hb.block i (by omega)).trans (h.block i hi hn)⟩
theorem step_append_ownS {ops : Array Oper} {o : Oper} {a : Act} {w : World} {K : Act → World → Prop} {Q : Exit → Act → World → Prop} {E : Prop} (hgd : o.guard = none) (s x : Operand)
    (ho : o.op = .call { callee := .builtin .append, args := #[s, x], argTypes := #[29, 29] }) (B : Nat) (v : Value) (n : Nat) (xs : List Int) (hs : a.eval s = v) (hown : Own B w v n xs)
    (ad : Addr) (m c : Nat) (ys : List Int) (hx : a.eval x = .slice (some ad) m c) (hy : Seg .u8 w (some ad) m ys) (hb : n + m ≤ 140737488355328) (hbase : B ≤ w.heap.size)
    (h : ∀ v' w', Own B w' v' (n + m) (xs ++ ys) → w.grownBy w' v.ownBlock → K (a.put o.dst v') w') :
    if Region.wanted o (yielded ops a.tmps) = true then Oper.wp Try.prog o a w K Q else E := by
  have hw : Region.wanted o (yielded ops a.tmps) = true := by simp [Region.wanted, hgd]
  rw [if_pos hw]
  obtain ⟨i, hi, hz, h4, h5⟩ := info_parts' infoU8v
  refine wp_append_own w s x 29 ho B 5 i (.int .u8 0) 1 1 Try.underlying29 hi hz h4 h5 rfl (by decide) v n (xs.map (Value.int .u8)) hs hown ad m c (ys.map (Value.int .u8)) hx (by rw [List.length_map, hy.1, Nat.mul_one]) (seg_news' hy ad rfl) (fun u hu => by obtain ⟨z, _, rfl⟩ := List.mem_map.1 hu; rfl) (by unfold maxLen; omega) (by omega) hbase ?_
  intro v' w' k1 k2 _
  exact h v' w' (by unfold Own; rw [List.map_append]; exact k1) k2
set_option maxRecDepth 20000 in
set_option maxHeartbeats 1000000 in
theorem save_c (T : TypeId) (pre : List Value) (g : Nat) (p : St × List Int) (n : Nat) (w : World) (h : Hs T pre w g p n) (hb : Bytes p.2) (hn : n < 4611686018427387904) :
    Calls Try.prog 35 #[.pointer (some ⟨g, pre.length, none⟩)] w fun r w' => ∃ v, r = .returned v ∧ Own w.heap.size w' v (svB p n).length (svB p n) ∧ Below w.heap.size w w' := by
  have HB : Hid (g < w.heap.size) := h.1.lt
  have HH : Hid (Hs T pre w g p n ∧ Bytes p.2) := ⟨h, hb⟩
  have hsz := cell_alloc h.1.size (.cells #[.int .u8 104, .int .u8 115] 5)
  have H0 : Hid (Own w.heap.size (w.alloc (.cells #[.int .u8 104, .int .u8 115] 5)) (.slice (some ⟨w.heap.size, 0, none⟩) 2 2) (2 + ([] : List Int).length) ([104, 115] ++ []) ∧ w.grownBy (w.alloc (.cells #[.int .u8 104, .int .u8 115] 5)) none) := ⟨own_two w 104 115, gb_alloc w _⟩
  have HN : Hid (n < 128 ^ (9 + 1)) := Nat.lt_of_lt_of_le hn (by decide)
  clear h hb
  obtain ⟨o, ho⟩ : ∃ o, o = pre.length := ⟨_, rfl⟩
  have HO : Hid (pre.length = o) := ho.symm
  rw [← ho] at hsz ⊢
  clear ho
  go_enter Try.func35, Try.ntmps35
  go_wp2
  clear hsz
  go_loopw [3, 4] (fun b v wr => ∃ (f m : Nat) (ys : List Int), v = .int .i64 (m : Int) ∧ m < 4611686018427387904 ∧ ys.length + f ≤ 9 ∧ Hid (Own w.heap.size wr b (2 + ys.length) ([104, 115] ++ ys) ∧ w.grownBy wr none ∧ ys ++ nbF f m = nb n ∧ m < 128 ^ (f + 1))) (fun _ v _ => (intOf v).toNat)
  case atStart => exact ⟨9, n, [], rfl, hn, by simp, H0.out.1, H0.out.2, rfl, HN.out⟩
  case round =>
    obtain ⟨f, m, ys, rfl, hm, hyl, hr⟩ := hrel
    clear H0
    have HBS : Hid (w.heap.size ≤ wr.heap.size) := hr.out.2.1.size
    by_cases hge : 128 ≤ m
    · rcases f with _ | f
      · have := hr.out.2.2.2; simp at this; omega
      · have h1 : (128 : Int) ≤ (m : Int) := by omega
        have hor := u8_or128 m
        have hsh : (m : Int) / 128 = ((m / 128 : Nat) : Int) := by omega
        have HNX : Hid ((ys ++ [((m % 128 + 128 : Nat) : Int)]) ++ nbF f (m / 128) = nb n ∧ m / 128 < 128 ^ (f + 1)) := ⟨by rw [← hr.out.2.2.1, nbF_big hge]; simp, div_pow hr.out.2.2.2⟩
        obtain ⟨c, hc⟩ : ∃ c : Int, c = ((m % 128 + 128 : Nat) : Int) := ⟨_, rfl⟩
        rw [← hc] at hor HNX
        obtain ⟨d, hd⟩ : ∃ d : Nat, d = m / 128 := ⟨_, rfl⟩
        rw [← hd] at hsh HNX
        have HDM : Hid (d < m) := by show _ < _; omega
        clear hc hd
        go_wp2_with (at_builtin; go_must (refine wpList_lit rfl _ _ 29 rfl w.heap.size 5 (.int .u8 0) 1 1 Try.underlying29 infoU8v rfl (by decide) wr #[.int .u8 c] rfl u3 (2 + ys.length) _ rfl hr.out.1 rfl rfl (by simp [Value.oneCell']) (by unfold maxLen; omega) (by omega) HBS.out ?_); intro g1 c1 w2 o1 b1 gr1 at1 lt1; have H2 : Hid (Own w.heap.size w2 (.slice (some ⟨g1, 0, none⟩) (2 + ys.length + 1) c1) (2 + (ys ++ [c]).length) ([104, 115] ++ (ys ++ [c])) ∧ w.grownBy w2 none) := ⟨by have o2 := o1; simp only [Own, List.length_append, List.length_singleton, ← Nat.add_assoc, ← List.append_assoc, List.map_append] at o2 ⊢; exact o2, gb_behindS hr.out.2.1 b1 (Nat.le_refl _)⟩; clear o1 b1 gr1 at1 lt1)
        go_roundw
        case rel => exact ⟨f, d, ys ++ [c], by go_num, by have := HDM.out; omega, by simp; omega, H2.out.1, H2.out.2, HNX.out.1, HNX.out.2⟩
        case measure => have := HDM.out; simp [intOf]; omega
    · have h1 : ¬ (128 : Int) ≤ (m : Int) := by omega
      have hmm : (m : Int) % 256 = (m : Int) := by omega
      have HNX : Hid (ys ++ [(m : Int)] = nb n) := by show _ = _; rw [← hr.out.2.2.1, nbF_small (by omega)]
      have hsl1 : ∀ W, (Instr.sliceAt 64 (.pointer (some ⟨g, o, none⟩)) none none none).run Try.prog W = .ok (.slice (some ⟨g, o, none⟩) 8 8) W := fun W => by
        have hel : Try.prog.elem 64 = 41 := by kernel_rfl
        have hal : Try.prog.arrayLen 64 = 8 := by kernel_rfl
        have hsz : (sizeOf 41).run Try.prog W = .ok 1 W := by kernel_rfl
        rw [run_sliceAt_array_all W 64 ⟨g, o, none⟩ (by rw [hal, hel]; exact Try.underlying64)]
        rw [hal, hel, hsz]
        simp [slicedAt, Addr.add]
      have HLD : Hid (∀ W, w.grownBy W none → Calls Try.prog 50 #[.slice (some ⟨g, o, none⟩) 8 8] W fun r w' => ∃ v, r = .returned v ∧ Own W.heap.size w' v (4 * 8) (p.1.words.flatMap b4) ∧ Below W.heap.size W w') := fun W hW => by
        have e := seg_words (HH.out.1.gb hW).1
        rw [HO.out] at e
        exact laid_c (some ⟨g, o, none⟩) p.1.words 8 8 W (words_len _) e (by decide)
      go_wp2_with (first
        | ((fail_if_success (have z := H2)); at_builtin; go_must (refine wpList_lit rfl _ _ 29 rfl w.heap.size 5 (.int .u8 0) 1 1 Try.underlying29 infoU8v rfl (by decide) wr #[.int .u8 (m : Int)] rfl u3 (2 + ys.length) _ rfl hr.out.1 rfl rfl (by simp [Value.oneCell']) (by unfold maxLen; omega) (by omega) HBS.out ?_); intro g1 c1 w2 o1 b1 gr1 at1 lt1; have H2 : Hid (Own w.heap.size w2 (.slice (some ⟨g1, 0, none⟩) (2 + ys.length + 1) c1) (2 + ys.length + 1) ([104, 115] ++ nb n) ∧ w.grownBy w2 none) := ⟨by rw [← HNX.out, ← List.append_assoc]; unfold Own; rw [List.map_append]; exact o1, gb_behindS hr.out.2.1 b1 (Nat.le_refl _)⟩; clear o1 b1 gr1 at1 lt1)
        | (go_at_call 50; go_must (refine (Calls.mono (HLD.out _ H2.out.2) ?_)); rintro r w3 ⟨v3, rfl, q1, q2⟩; obtain ⟨a3, c3, rfl, q3, q4, _⟩ := q1.seg; have H3 : Hid (Seg .u8 w3 a3 (4 * 8) (p.1.words.flatMap b4) ∧ (a3 = none → c3 = 0) ∧ Own w.heap.size w3 (.slice (some ⟨g1, 0, none⟩) (2 + ys.length + 1) c1) (2 + ys.length + 1) ([104, 115] ++ nb n) ∧ w.grownBy w3 none) := ⟨q3, q4, H2.out.1.below q2, gb_behindS H2.out.2 q2 H2.out.2.size⟩; clear q1 q2 q3 q4)
        | (have z := H3; clear z; at_builtin; go_must (refine wpList_append_apart _ rfl (.tmp 25) (.tmp 30) rfl w.heap.size _ _ _ rfl H3.out.2.2.1 a3 (4 * 8) c3 (p.1.words.flatMap b4) rfl H3.out.2.1 H3.out.1 (by omega) H3.out.2.2.2.size ?_); intro v4 w4 q1 q2 _; obtain ⟨g4, c4, rfl, _, _⟩ := q1.form (by omega); have H4 : Hid (Own w.heap.size w4 (.slice (some ⟨g4, 0, none⟩) (2 + ys.length + 1 + 4 * 8) c4) (2 + ys.length + 1 + 4 * 8) ([104, 115] ++ nb n ++ p.1.words.flatMap b4) ∧ w.grownBy w4 none) := ⟨q1, gb_behindS H3.out.2.2.2 (gb_own H3.out.2.2.1 q2 H3.out.2.2.2.size) (Nat.le_refl _)⟩; clear q1 q2))
      obtain ⟨M, hM⟩ : ∃ M, M = n % 64 := ⟨_, rfl⟩
      have hM64 : M ≤ 64 := by omega
      have hM0 : (0 : Int) ≤ M := by omega
      have hsl2 : ∀ W, (Instr.sliceAt 65 (.pointer (some ⟨g, o + 8, none⟩)) none (some (.int .i64 (M : Int))) none).run Try.prog W = .ok (.slice (some ⟨g, o + 8, none⟩) M 64) W := fun W => by
        have hel : Try.prog.elem 65 = 5 := by kernel_rfl
        have hal : Try.prog.arrayLen 65 = 64 := by kernel_rfl
        have hsz : (sizeOf 5).run Try.prog W = .ok 1 W := by kernel_rfl
        rw [run_sliceAt_array_h W 65 ⟨g, o + 8, none⟩ (by rw [hal, hel]; exact part_type64) .i64 M hM0 (by rw [hal]; omega)]
        rw [hal, hel, hsz]
        simp [slicedAt, Addr.add]
      have HOV : Hid (∀ W, w.grownBy W none → Calls Try.prog 45 #[.pointer (some ⟨g, o, none⟩)] W fun r w' => r = .returned (.int .i64 (M : Int)) ∧ w' = W) := fun W hW => by
        have e := over_c T pre g p.1 (rz p.2) n M hM W (HH.out.1.gb hW).1 hn
        rw [HO.out] at e
        exact e
      have HRS : Hid (∀ W, w.grownBy W none → Seg .u8 W (some ⟨g, o + 8, none⟩) M p.2) := fun W hW => by
        have e := seg_rest (HH.out.1.gb hW)
        rw [HO.out, ← hM] at e
        exact e
      have HSV : Hid ([104, 115] ++ nb n ++ p.1.words.flatMap b4 ++ p.2 = svB p n) := rfl
      have HLN : Hid (2 + ys.length + 1 + 4 * 8 + M = (svB p n).length) := by
        show _ = _
        have e1 := congrArg List.length HNX.out
        have e2 := HH.out.1.2
        rw [List.length_append, List.length_singleton] at e1
        unfold svB
        simp only [List.length_append, b4s_len, ← e1, e2, hM, List.length_cons, List.length_nil]
        omega
      clear hsl1 hM hmm h1 HLD
      go_region_law (first
        | (refine ph_fn 45 _ _ rfl rfl #[.pointer (some ⟨g, o, none⟩)] (map_one rfl) (by kernel_rfl) ?_; refine (Calls.mono (HOV.out _ (gb_drewN H4.out.2 _)) ?_); rintro e W' ⟨rfl, hq⟩; obtain rfl := hq.symm; refine ⟨_, rfl, ?_⟩)
        | (refine step_append_ownS rfl (.tmp 32) (.tmp 38) rfl w.heap.size (.slice (some ⟨g4, 0, none⟩) (2 + ys.length + 1 + 4 * 8) c4) (2 + ys.length + 1 + 4 * 8) ([104, 115] ++ nb n ++ p.1.words.flatMap b4) rfl (show Own _ _ _ _ _ from H4.out.1) ⟨g, o + 8, none⟩ M 64 p.2 rfl (HRS.out _ (gb_drewN H4.out.2 _)) (by omega) H4.out.2.size ?_; intro v5 w5 q1 q2; have H5 : Hid (Own w.heap.size w5 v5 (svB p n).length (svB p n) ∧ w.grownBy w5 none) := ⟨by rw [← HLN.out, ← HSV.out]; exact q1, gb_behindS (gb_drewN H4.out.2 _) (gb_own (show World.ownsRow _ _ _ _ _ _ _ from H4.out.1) q2 H4.out.2.size) (Nat.le_refl _)⟩; clear q1 q2))
      all_goals (
        go_wp2
        go_ret
        exact ⟨v5, rfl, H5.out.1, gb_below H5.out.2⟩)
end Go.Proofs.Ytlfppknpnfeplaa
