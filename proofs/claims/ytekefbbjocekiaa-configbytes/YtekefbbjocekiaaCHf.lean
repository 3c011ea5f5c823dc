/-
  What the document's number and Encode of a configuration answer. Condition: the chain can be read.
-/
import Derived.Test.YtekefbbjocekiaaCHe
import Derived.Lib.AppendStr
namespace Go.Proofs.Ytekefbbjocekiaa
open Go.RowKit Go.ChangeShapes Go.WideShapes
set_option linter.unusedVariables false

theorem gb_alloc (a : World) (o : Obj) : a.grownBy (a.alloc o) none := World.grownBy_alloc _ _ _
theorem own_keep {B : Nat} {w w' : World} {v : Value} {n : Nat} {xs : List Int} (h : Own B w v n xs) (hg : w.grownBy w' none) : Own B w' v n xs := by
  refine ⟨h.1, ?_⟩
  rcases h.2 with q | ⟨g, cap, cur, q1, q2, q3, q4⟩
  · exact .inl q
  · exact .inr ⟨g, cap, cur, q1, q2, (hg.block g (lt_of_block q3) (by simp)).trans q3, q4⟩
theorem byte_seg (w : World) (c : Int) : Seg .u8 (w.alloc (.cells #[.int .u8 c] 5)) (some ⟨w.heap.size, 0, none⟩) 1 [c] := by
  refine ⟨rfl, .inr ⟨w.heap.size, 0, rfl, by simp, fun i hi => ?_⟩⟩
  rw [Nat.zero_add, cell_of_row _ _ i _ _ _ (heap_new w _)]
  obtain rfl : i = 0 := by omega
  rfl
set_option maxRecDepth 20000 in
set_option maxHeartbeats 1000000 in
theorem gnumber_c (V : Nat) (hV : V < 9223372036854775808) (w : World) : Calls Try.prog 53 #[.int .i64 (V : Int)] w fun r w' => ∃ v, r = .returned v ∧ Own w.heap.size w' v (enc V).length (enc V) ∧ Below w.heap.size w w' := by
  obtain ⟨B, hB⟩ : ∃ B, B = w.heap.size := ⟨_, rfl⟩
  have HB : Hid (B = w.heap.size) := hB
  have HV : Hid (V < 9223372036854775808) := hV
  go_enter Try.func53, Try.ntmps53
  rw [← hB]
  clear hB hV
  go_wp2
  go_loopw [0, 3] (fun v b wr => ∃ (n : Nat) (ys : List Int) (bv : Value), v = .int .i64 (n : Int) ∧ b = bv ∧ n < 9223372036854775808 ∧ ys.length ≤ 100 ∧ Hid (Own B wr bv ys.length ys ∧ Below B w wr ∧ ys ++ enc n = enc V ∧ (enc n).length + ys.length ≤ 10)) (fun v _ _ => (intOf v).toNat)
  case atStart => exact ⟨V, [], _, rfl, rfl, HV.out, by simp, own_nil _ _, Below.refl _ _, rfl, by have := enc_leN V (by have := HV.out; omega); simpa using this⟩
  case round =>
    obtain ⟨n, ys, bv, rfl, hbv, hn, hyl, hr⟩ := hrel
    obtain rfl := hbv.symm
    have HBS : Hid (B ≤ wr.heap.size) := by have := hr.out.2.1.size; have := HB.out; show _ ≤ _; omega
    by_cases h : 127 < n
    · have h1 : (127 : Int) < (n : Int) := by omega
      have hq : (n : Int).tdiv 128 = ((n / 128 : Nat) : Int) := by rw [Int.tdiv_eq_ediv_of_nonneg (by omega)]; omega
      have hm : (n : Int).tmod 128 = ((n % 128 : Nat) : Int) := by rw [Int.tmod_eq_emod_of_nonneg (by omega)]; omega
      obtain ⟨c, hc⟩ : ∃ c : Nat, c = n % 128 := ⟨_, rfl⟩
      obtain ⟨d, hd⟩ : ∃ d : Nat, d = n / 128 := ⟨_, rfl⟩
      rw [← hc] at hm
      rw [← hd] at hq
      have hc2 : c < 128 := by omega
      have hu : IntKind.u8.wrap ((c : Int) + 128) = (c : Int) + 128 := by simp [IntKind.wrap, IntKind.signed, IntKind.bits]; omega
      have HN : Hid (enc n = ((c : Int) + 128) :: enc d) := by
        show _ = _
        rw [enc_big (by omega), hc, hd]
        simp
      have HD : Hid (d < n ∧ d < 9223372036854775808) := ⟨by omega, by omega⟩
      have hd2 : (d : Int) ≤ 9223372036854775807 := by omega
      clear hc hd h
      go_wp2_with (at_builtin; go_must (refine wpList_append_apart _ rfl (.tmp 6) (.tmp 11) rfl B ys.length bv ys rfl (own_keep hr.out.1 (gb_alloc wr _)) (some ⟨wr.heap.size, 0, none⟩) 1 1 [(c : Int) + 128] rfl (fun z => by cases z) (byte_seg wr _) (by omega) (by have := HBS.out; simp; omega) ?_); intro v2 w2 ho hg _; have H2 : Hid (Own B w2 v2 (ys.length + 1) (ys ++ [(c : Int) + 128]) ∧ Below B w w2) := ⟨ho, (hr.out.2.1.trans ((Below.refl _ _).alloc HBS.out _)).trans ((Below.refl _ _).grown hg (by have := HBS.out; simp; omega) (fun k hk => (hr.out.1.lo k hk).1))⟩; clear ho hg)
      go_roundw
      case rel => exact ⟨d, ys ++ [(c : Int) + 128], v2, by go_num, rfl, HD.out.2, by have := hr.out.2.2.2; simp; omega, by simpa using H2.out.1, H2.out.2, by rw [← hr.out.2.2.1, HN.out]; simp, by have := hr.out.2.2.2; rw [HN.out] at this; simp at this ⊢; omega⟩
      case measure => have := HD.out.1; simp [intOf]; omega
    · have h1 : ¬ (127 : Int) < (n : Int) := by omega
      have hu : IntKind.u8.wrap (n : Int) = (n : Int) := by simp [IntKind.wrap, IntKind.signed, IntKind.bits]; omega
      have HN : Hid (enc n = [(n : Int)]) := enc_small (by omega)
      clear h
      go_wp2_with (at_builtin; go_must (refine wpList_append_apart _ rfl (.tmp 15) (.tmp 18) rfl B ys.length bv ys rfl (own_keep hr.out.1 (gb_alloc wr _)) (some ⟨wr.heap.size, 0, none⟩) 1 1 [(n : Int)] rfl (fun z => by cases z) (byte_seg wr _) (by omega) (by have := HBS.out; simp; omega) ?_); intro v2 w2 ho hg _; have H2 : Hid (Own B w2 v2 (ys.length + 1) (ys ++ [(n : Int)]) ∧ Below B w w2) := ⟨ho, (hr.out.2.1.trans ((Below.refl _ _).alloc HBS.out _)).trans ((Below.refl _ _).grown hg (by have := HBS.out; simp; omega) (fun k hk => (hr.out.1.lo k hk).1))⟩; clear ho hg)
      go_ret
      have e : enc V = ys ++ [(n : Int)] := by rw [← hr.out.2.2.1, HN.out]
      rw [e]
      exact ⟨v2, rfl, by simpa using H2.out.1, H2.out.2⟩
theorem gNumber_c (V : Nat) (hV : V < 9223372036854775808) (w : World) : Calls Try.prog 46 #[.int .i64 (V : Int)] w fun r w' => ∃ v, r = .returned v ∧ Own w.heap.size w' v (enc V).length (enc V) ∧ Below w.heap.size w w' := by
  have HG : Hid _ := gnumber_c V hV w
  go_enter Try.func46, Try.ntmps46
  go_wp2_with (go_at_call 53; go_must (refine (Calls.mono HG.out ?_)); rintro r w1 ⟨v, rfl, ho, hb⟩; have H1 : Hid (Own w.heap.size w1 v (enc V).length (enc V) ∧ Below w.heap.size w w1) := ⟨ho, hb⟩; clear ho hb)
  go_ret
  exact ⟨v, rfl, H1.out⟩
/-- append of one byte to bytes of one's own, in a region that draws its order. -/
theorem step_growU {ops : Array Oper} {o : Oper} {a : Act} {w : World} {K : Act → World → Prop} {Q : Exit → Act → World → Prop} {E : Prop} (hgd : o.guard = none) (s x : Operand)
    (hop : o.op = Op.call { callee := Callee.builtin Builtin.append, args := #[s, x], argTypes := #[49, 49] }) (B n : Nat) (v : Value) (xs : List Int) (hs : a.eval s = v) (hown : Own B w v n xs)
    (ad : Addr) (m c : Nat) (ys : List Int) (hx : a.eval x = .slice (some ad) m c) (hy : Seg .u8 w (some ad) m ys) (hb : n + m ≤ 140737488355328) (hbase : B ≤ w.heap.size)
    (hK : ∀ v' w', Own B w' v' (n + m) (xs ++ ys) → Below B w w' → K (a.put o.dst v') w') :
    if Region.wanted o (yielded ops a.tmps) = true then Oper.wp Try.prog o a w K Q else E := by
  have hw : Region.wanted o (yielded ops a.tmps) = true := by simp [Region.wanted, hgd]
  rw [if_pos hw]
  obtain ⟨i, hi, hz, h4, h5⟩ := info_parts Try.infoU8
  refine wp_append_own w s x 49 hop B 5 i (.int .u8 0) 1 1 Try.underlying49 hi hz h4 h5 rfl (by decide) v n (xs.map (Value.int .u8)) hs hown ad m c (ys.map (Value.int .u8)) hx (by simp [hy.1]) (seg_news' hy ad rfl) ?_ (by unfold maxLen; omega) (by omega) hbase ?_
  · intro u hu; obtain ⟨z, _, rfl⟩ := List.mem_map.1 hu; rfl
  · intro v' w' hown' hg _
    have ho : Own B w' v' (n + m) (xs ++ ys) := by unfold Own; rw [List.map_append]; exact hown'
    exact hK v' w' ho ((Below.refl _ _).grown hg hbase (fun k hk => (Own.lo (show Own B w v n xs from hown) k hk).1))
theorem kn_B {l : List (Nat × TypeId × Int × Value)} {w W W' : World} {B : Nat} (h : Kn l w W) (hb : Below B W W') (hB : w.heap.size ≤ B) (hl : ∀ x ∈ l, x.1 < B) : Kn l w W' :=
  ⟨fun x hx => (hb.block x.1 (hl x hx)).trans (h.1 x hx), h.2.trans (hb.mono hB)⟩
theorem kn_B1 {b : Nat} {T : TypeId} {e : Int} {v : Value} {w W W' : World} {B : Nat} (h : Kn [(b, T, e, v)] w W) (hb : Below B W W') (hB : w.heap.size ≤ B) (hl : b < B) : Kn [(b, T, e, v)] w W' :=
  kn_B h hb hB (fun x hx => by rw [List.mem_singleton.1 hx]; exact hl)
set_option maxRecDepth 20000 in
set_option maxHeartbeats 8000000 in
theorem qencode_c (e : Int) (a : Option Addr) (n c : Nat) (xs : List Int) (w : World) (h : Seg .i64 w a n xs) (hnc : n ≤ c) (hk : chk e xs = 0) :
    Calls Try.prog 34 #[.agg #[.int .i64 e, .slice a n c]] w fun r w' => ∃ a' c', r = .returned (.tuple #[.slice a' (cBy e xs).length c', .int .i64 0]) ∧ Own w.heap.size w' (.slice a' (cBy e xs).length c') (cBy e xs).length (cBy e xs) ∧ Below w.heap.size w w' := by
  have HC0 := qcheck_c e a n c xs _ (h.below (alloc_b w (.cells #[.int .i64 e, .slice a n c] 33))) hnc
  rw [hk] at HC0
  have HC : Hid _ := HC0
  clear HC0
  have HB : Hid (Kn [(w.heap.size, 33, e, .slice a n c)] w (w.alloc (.cells #[.int .i64 e, .slice a n c] 33))) := Kn.of (CfB.new _ _ _ _) (alloc_b _ _)
  have HS : Hid (Seg .i64 w a n xs ∧ xs.length = n) := ⟨h, h.1⟩
  have hch := chk_ok.1 hk
  have hlen := h.1
  have hn8 : n ≤ 8 := by omega
  have HEL : Hid ((enc e.toNat).length ≤ 10) := enc_leN e.toNat (by omega)
  have HE1 : Hid ((enc e.toNat).length + 1 ≤ 140737488355328 ∧ ∀ k, k ≤ 8 → (enc e.toNat).length + 1 + k + 1 ≤ 140737488355328) := ⟨by have := HEL.out; omega, fun k hk => by have := HEL.out; omega⟩
  have he : 1 ≤ e ∧ e ≤ 1099511627776 := hch.1
  have HG : Hid (∀ x ∈ xs, 1 ≤ x ∧ x ≤ 8) := hch.2.2.1
  have HNU : Hid (∀ W, Calls Try.prog 46 #[.int .i64 e] W fun r w' => ∃ v, r = .returned v ∧ Own W.heap.size w' v (enc e.toNat).length (enc e.toNat) ∧ Below W.heap.size W w') := fun W => by
    have := gNumber_c e.toNat (by omega) W
    rwa [Int.toNat_of_nonneg (by omega)] at this
  have hu : IntKind.u8.wrap (n : Int) = (n : Int) := by simp [IntKind.wrap, IntKind.signed, IntKind.bits]; omega
  clear h hk hch
  go_enter Try.func34, Try.ntmps34
  go_wp2_with (first
    | (go_at_call 14; go_must (refine (Calls.mono HC.out ?_)); rintro r w1 ⟨rfl, hb⟩; have H1 : Hid (Kn [(w.heap.size, 33, e, .slice a n c)] w w1) := HB.out.below hb; have c0 := H1.out.c0 0 rfl; have c1 := H1.out.c1 0 rfl; clear hb))
  have HST : Hid (∀ W W5, Below W.heap.size W W5 → ((W.cell? ⟨w.heap.size, 0, none⟩ = some (.int .i64 e) ∧ W.cell? ⟨w.heap.size, 1, none⟩ = some (.slice a n c)) ∧ Hid (Kn [(w.heap.size, 33, e, .slice a n c)] w W)) → ((W5.cell? ⟨w.heap.size, 0, none⟩ = some (.int .i64 e) ∧ W5.cell? ⟨w.heap.size, 1, none⟩ = some (.slice a n c)) ∧ Hid (Kn [(w.heap.size, 33, e, .slice a n c)] w W5))) := fun W W5 hb h => by have z := h.2.out.below hb; exact ⟨⟨z.c0 0 rfl, z.c1 0 rfl⟩, z⟩
  have hS1 : (w1.cell? ⟨w.heap.size, 0, none⟩ = some (.int .i64 e) ∧ w1.cell? ⟨w.heap.size, 1, none⟩ = some (.slice a n c)) ∧ Hid (Kn [(w.heap.size, 33, e, .slice a n c)] w w1) := ⟨⟨c0, c1⟩, H1⟩
  have hSd : (w1.drew.cell? ⟨w.heap.size, 0, none⟩ = some (.int .i64 e) ∧ w1.drew.cell? ⟨w.heap.size, 1, none⟩ = some (.slice a n c)) ∧ Hid (Kn [(w.heap.size, 33, e, .slice a n c)] w w1.drew) := ⟨⟨c0, c1⟩, H1.out.drew⟩
  go_region_held3 (fun W => (W.cell? ⟨w.heap.size, 0, none⟩ = some (.int .i64 e) ∧ W.cell? ⟨w.heap.size, 1, none⟩ = some (.slice a n c)) ∧ Hid (Kn [(w.heap.size, 33, e, .slice a n c)] w W)) (first | assumption | exact HST.out _ _ (alloc_b _ _) (by assumption)) (first
    | (go_at_call 46; refine (Calls.mono (HNU.out ((w1.alloc (.cells #[.int .u8 (n : Int)] 5)).drew)) ?_); rintro r w5 ⟨v, rfl, ho, hb⟩; have H5 : Hid (Own w1.heap.size w5 v (enc e.toNat).length (enc e.toNat)) := ho.base (by simp); have HL5 : Hid (w1.heap.size ≤ w5.heap.size) := Nat.le_trans (alloc_b w1 (.cells #[.int .u8 (n : Int)] 5)).size hb.size; have hS5 := HST.out _ w5 hb (by assumption); have HSL : Hid (Seg .u8 w5 (some ⟨w1.heap.size, 0, none⟩) 1 [(n : Int)]) := ((byte_seg w1 (n : Int)).below (Below.drew (Below.refl _ _))).below hb; clear ho hb)
    | (go_at_call 46; refine (Calls.mono (HNU.out _) ?_); rintro r w5 ⟨v, rfl, ho, hb⟩; have H5 : Hid (Own w1.heap.size w5 v (enc e.toNat).length (enc e.toNat)) := ho.base (by simp); have HL5 : Hid (w1.heap.size ≤ w5.heap.size) := hb.size; have hS5 := HST.out _ w5 hb (by assumption); clear ho hb)
    | (have z := HSL; clear z; refine step_growU rfl (.tmp 14) (.tmp 19) rfl w1.heap.size _ v (enc e.toNat) rfl H5.out ⟨w1.heap.size, 0, none⟩ 1 1 [(n : Int)] rfl HSL.out HE1.out.1 HL5.out ?_; intro v6 w6 ho6 hb6; obtain ⟨a6, c6, rfl, _⟩ := ho6.seg; have H6 : Hid (Own w1.heap.size w6 (.slice a6 ((enc e.toNat).length + 1) c6) ((enc e.toNat).length + 1) (enc e.toNat ++ [(n : Int)]) ∧ Kn [(w.heap.size, 33, e, .slice a n c)] w w6 ∧ w1.heap.size ≤ w6.heap.size) := ⟨ho6, kn_B1 hS5.2.out hb6 H1.out.2.size (H1.out.lt 0 rfl), Nat.le_trans HL5.out hb6.size⟩; have hS6 : (w6.cell? ⟨w.heap.size, 0, none⟩ = some (.int .i64 e) ∧ w6.cell? ⟨w.heap.size, 1, none⟩ = some (.slice a n c)) ∧ Hid (Kn [(w.heap.size, 33, e, .slice a n c)] w w6) := ⟨⟨H6.out.2.1.c0 0 rfl, H6.out.2.1.c1 0 rfl⟩, H6.out.2.1⟩; clear ho6 hb6 HSL)
    | (refine step_growU rfl (.tmp 14) (.tmp 19) rfl w1.heap.size _ v (enc e.toNat) rfl (H5.out.below (alloc_b w5 (.cells #[.int .u8 (n : Int)] 5))) ⟨w5.heap.size, 0, none⟩ 1 1 [(n : Int)] rfl (byte_seg w5 _) HE1.out.1 (Nat.le_trans HL5.out (alloc_b w5 (.cells #[.int .u8 (n : Int)] 5)).size) ?_; intro v6 w6 ho6 hb6; obtain ⟨a6, c6, rfl, _⟩ := ho6.seg; have H6 : Hid (Own w1.heap.size w6 (.slice a6 ((enc e.toNat).length + 1) c6) ((enc e.toNat).length + 1) (enc e.toNat ++ [(n : Int)]) ∧ Kn [(w.heap.size, 33, e, .slice a n c)] w w6 ∧ w1.heap.size ≤ w6.heap.size) := ⟨ho6, kn_B1 (hS5.2.out.below (alloc_b w5 (.cells #[.int .u8 (n : Int)] 5))) hb6 H1.out.2.size (H1.out.lt 0 rfl), Nat.le_trans HL5.out (Nat.le_trans (alloc_b w5 (.cells #[.int .u8 (n : Int)] 5)).size hb6.size)⟩; have hS6 : (w6.cell? ⟨w.heap.size, 0, none⟩ = some (.int .i64 e) ∧ w6.cell? ⟨w.heap.size, 1, none⟩ = some (.slice a n c)) ∧ Hid (Kn [(w.heap.size, 33, e, .slice a n c)] w w6) := ⟨⟨H6.out.2.1.c0 0 rfl, H6.out.2.1.c1 0 rfl⟩, H6.out.2.1⟩; clear ho6 hb6))
  all_goals
    obtain ⟨B, hB⟩ : ∃ B, B = w1.heap.size := ⟨_, rfl⟩
    have HBB : Hid (w.heap.size ≤ B) := by rw [hB]; exact H1.out.2.size
    have H7 : Hid (Own B w6 (.slice a6 ((enc e.toNat).length + 1) c6) ((enc e.toNat).length + 1) (enc e.toNat ++ [(n : Int)]) ∧ Kn [(w.heap.size, 33, e, .slice a n c)] w w6) := by rw [hB]; exact ⟨H6.out.1, H6.out.2.1⟩
    have HLB : Hid (w.heap.size < B ∧ B ≤ w6.heap.size) := ⟨by rw [hB]; exact H1.out.lt 0 rfl, by rw [hB]; exact H6.out.2.2⟩
    clear hB hS6 hS5 hSd hS1 HST H6 H5 H1 HL5 HNU HC HB hu c0 c1
    go_wp2
    go_loopw [6, 5] (fun i b wr => ∃ (k : Nat) (a' : Option Addr) (c' : Nat), k ≤ n ∧ i = .int .i64 (k : Int) ∧ b = .slice a' ((enc e.toNat).length + 1 + k) c' ∧ Hid (Own B wr (.slice a' ((enc e.toNat).length + 1 + k) c') ((enc e.toNat).length + 1 + k) (enc e.toNat ++ [(n : Int)] ++ xs.take k) ∧ Kn [(w.heap.size, 33, e, .slice a n c)] w wr ∧ B ≤ wr.heap.size)) (fun i _ _ => n - (intOf i).toNat)
    case atStart => exact ⟨0, a6, c6, Nat.zero_le _, rfl, rfl, by rw [List.take_zero, List.append_nil]; exact ⟨H7.out.1, H7.out.2, HLB.out.2⟩⟩
    case round =>
      obtain ⟨k, a', c', hk, rfl, rfl, hr⟩ := hrel
      have hw3 : wrap64 ((k : Int) + 1) = (k : Int) + 1 := IntWalk.wrap64_in _ ⟨by omega, by omega⟩
      have c0 := hr.out.2.1.c0 0 rfl
      have c1 := hr.out.2.1.c1 0 rfl
      by_cases hlt : k < n
      · have hi1 : (k : Int) < n := by omega
        obtain ⟨ba, oa, x, rfl, hx, ca⟩ := seg_at1 (HS.out.1.below hr.out.2.1.2) hlt
        have hx8 := HG.out x (List.mem_of_getElem? hx)
        have HX : Hid (xs.take (k + 1) = xs.take k ++ [x]) := by show _ = _; rw [List.take_add_one, hx]; rfl
        have hu : IntKind.u8.wrap x = x := by simp [IntKind.wrap, IntKind.signed, IntKind.bits]; omega
        have hk8 : k ≤ 8 := by omega
        clear hx
        go_wp2_with (at_builtin; go_must (refine wpList_append_grow _ rfl (.tmp 28) (.tmp 35) rfl B _ _ _ rfl (hr.out.1.below (alloc_b _ _)) (some ⟨wr.heap.size, 0, none⟩) 1 1 [x] rfl (fun h => nomatch h) (byte_seg wr x) (HE1.out.2 k hk8) (Nat.le_trans hr.out.2.2 (alloc_b _ _).size) ?_); intro v6 w6 ho6 hb6; obtain ⟨a6', c6', rfl, _⟩ := ho6.seg; go_must (have H6 : Hid (Own B w6 (.slice a6' ((enc e.toNat).length + 1 + k + 1) c6') ((enc e.toNat).length + 1 + k + 1) (enc e.toNat ++ [(n : Int)] ++ xs.take k ++ [x]) ∧ Kn [(w.heap.size, 33, e, .slice (some ⟨ba, oa, none⟩) n c)] w w6 ∧ B ≤ w6.heap.size) := ⟨ho6, kn_B1 (hr.out.2.1.below (alloc_b _ _)) hb6 HBB.out HLB.out.1, Nat.le_trans hr.out.2.2 (Nat.le_trans (alloc_b _ _).size hb6.size)⟩); clear ho6 hb6)
        go_roundw
        case rel => exact ⟨k + 1, a6', c6', by omega, by go_num, rfl, by rw [HX.out, ← List.append_assoc]; exact H6.out⟩
        case measure => simp [intOf]; omega
      · obtain rfl : k = n := by omega
        have hi1 : ¬ (k : Int) < k := by omega
        have HY : Hid (enc e.toNat ++ [(k : Int)] ++ xs.take k = cBy e xs ∧ (enc e.toNat).length + 1 + k = (cBy e xs).length) := by
          refine ⟨?_, by rw [cBy_len, HS.out.2]; omega⟩
          rw [List.take_of_length_le (Nat.le_of_eq HS.out.2)]
          unfold cBy
          rw [HS.out.2, List.append_assoc]; rfl
        go_wp2
        go_ret2
        refine ⟨a', c', by rw [← HY.out.2]; rfl, ?_, hr.out.2.1.2⟩
        have z := hr.out.1.base HBB.out
        rw [HY.out.1, HY.out.2] at z
        exact z
end Go.Proofs.Ytekefbbjocekiaa
