/-
  What span's Prefix and the document's answer: the same plain function. No condition but that the text is one that a machine has.
-/
import Derived.Test.YtggkkpbgnlmfeaaNLe
import Derived.Test.YtggkkpbgnlmfeaaNHa
import Derived.Laws.IdiomStrings
namespace Go.Proofs.Ytggkkpbgnlmfeaa
set_option linter.unusedVariables false
open Go.RowKit

/-- A list with one more at its last place. -/
def bump (xs : List Int) : List Int := xs.set (xs.length - 1) ((xs.getD (xs.length - 1) 0 + 1) % 256)
/-- The end of a prefix's range. -/
def pto (p : ByteArray) : ByteArray := if trimS p 255 = .empty then .empty else strOfNums (bump (bs (trimS p 255)))
theorem trim_size (s : ByteArray) (c : Int) : (trimS s c).size = trimN (bs s) c s.size := by
  rw [← bs_len, bs_trim, List.length_take, bs_len]
  have := trimN_le (bs s) c s.size
  omega
theorem bytesRow_size (s : ByteArray) (cap : Nat) (h : s.size ≤ cap) : (bytesRow s cap).size = cap := by
  unfold bytesRow
  have : s.data.size = s.size := rfl
  simp; omega
theorem bs_at (s : ByteArray) (cap i : Nat) (hi : i < s.size) : (bytesRow s cap)[i]? = some (.int .u8 ((bs s).getD i 0)) := by
  rw [bytesRow_at _ _ _ hi]
  have h2 : i < s.data.toList.length := by rw [Array.length_toList]; exact hi
  simp only [bs, List.getD_eq_getElem?_getD, List.getElem?_map, List.getElem?_eq_getElem h2, Option.map_some, Option.getD_some]
  rfl
/-- Bytes in a block that may be written. -/
def Byt (W : World) (b : Nat) (xs : List Int) : Prop := b < W.heap.size ∧ ∀ i, i < xs.length → W.cell? ⟨b, i, none⟩ = some (.int .u8 (xs.getD i 0)) ∧ W.frozen? ⟨b, i, none⟩ = false
theorem Byt.seg {W : World} {b : Nat} {xs : List Int} (h : Byt W b xs) : Seg .u8 W (some ⟨b, 0, none⟩) xs.length xs :=
  ⟨rfl, .inr ⟨b, 0, rfl, h.1, fun i hi => by rw [Nat.zero_add, (h.2 i hi).1]; simp⟩⟩
theorem Byt.take {W : World} {b : Nat} {xs : List Int} (h : Byt W b xs) (n : Nat) : Byt W b (xs.take n) :=
  ⟨h.1, fun i hi => by
    have h1 : i < n ∧ i < xs.length := by rw [List.length_take] at hi; omega
    rw [List.getD_eq_getElem?_getD, List.getElem?_take_of_lt h1.1, ← List.getD_eq_getElem?_getD]
    exact h.2 i h1.2⟩
/-- A text as bytes of one's own. -/
theorem to_bytes (s : ByteArray) (w : World) (hm : s.size ≤ maxLen) : ∃ W C, (convert 9 56 (.string s)).run Try.prog w = .ok (.slice (some ⟨w.heap.size, 0, none⟩) s.size C) W ∧ Byt W w.heap.size (bs s) ∧ w.grownBy W none ∧ s.size ≤ C ∧ C ≤ maxLen := by
  have r2 := run_bytes_of_string (P := Try.prog) w 9 56 5 s Try.underlying9 Try.underlying56 Try.underlying5
  obtain ⟨C, hC⟩ : ∃ C, C = grownCap w s.size 0 5 := ⟨_, rfl⟩
  have hge : s.size ≤ C := by rw [hC]; exact grownCap_ge _ _ _ _
  have hmx : C ≤ maxLen := by rw [hC]; exact grownCap_le_maxLen _ _ _ _ (by unfold maxLen at *; omega)
  rw [← hC, bytesRow_size _ _ hge] at r2
  refine ⟨_, C, r2, ?_, below_gb ((Below.refl _ _).drew.alloc (Nat.le_refl _) _), hge, hmx⟩
  have hcl : ∀ i, (w.drew.alloc (.cells (bytesRow s C) 5 (C, C + 1))).cell? ⟨w.heap.size, i, none⟩ = (bytesRow s C)[i]? := fun i => World.cell?_alloc_mark w.drew _ _ _ i
  refine ⟨by simp, fun i hi => ⟨?_, ?_⟩⟩
  · rw [hcl, bs_at s C i (by rw [← bs_len]; exact hi)]
  · have := World.frozen?_alloc_mark w.drew (bytesRow s C) 5 C (C + 1) i
    rw [bs_len] at hi
    refine Eq.trans this ?_
    simp; omega
theorem Byt.set {W : World} {b : Nat} {xs : List Int} (h : Byt W b xs) (k : Nat) (y : Int) (hk : k < xs.length) : Byt (W.setCell ⟨b, k, none⟩ (.int .u8 y)) b (xs.set k y) := by
  refine ⟨by simpa using h.1, fun i hi => ?_⟩
  rw [List.length_set] at hi
  have h1 := h.2 i hi
  rw [World.frozen?_setCell]
  refine ⟨?_, h1.2⟩
  by_cases e : k = i
  · subst e
    rw [World.cell?_setCell_same (h := h1.1)]; simp [hi]
  · rw [World.cell?_setCell_other (h := fun e2 => e (congrArg Addr.off e2)), h1.1]
    simp [e]
theorem wpList_at {ops : Array Oper} {rest : List Oper} {op : Oper} {a : Act} {w w' : World} {Q : Exit → Act → World → Prop} (src dst : TypeId) (hgd : op.guard = none) (x : Operand) (ho : op.op = .convert src dst x)
    (u v : Value) (hx : a.eval x = u) (hr : (convert src dst u).run Try.prog w = .ok v w')
    (K : wpList Try.prog ops Q rest (a.put op.dst v) w') : wpList Try.prog ops Q (op :: rest) a w := by
  refine wpList_plain hgd fun K' hK => ?_
  unfold Oper.wp execOp
  simp only [ho, hx, hr, Sem.run_bind, Sem.run_pure, Result.andThen_ok]
  exact hK _ _ K
theorem zR (w : World) : (zeroValue 28).run Try.prog w = .ok (rv (.empty, .empty)) w := by
  have h : (Try.prog.info? 28).map (fun i => (i.zero, i.size)) = some (some (rv (.empty, .empty)), 2) := by kernel_rfl
  exact (zero_of_info h).1 w
theorem two_one (a b : ByteArray) : (#[Value.string a, Value.string b] : Array Value).all (·.oneCell') = true := by simp [Value.oneCell']
theorem nil_is {T : ByteArray} (h : T = .empty) : T.toList = [] ∧ T.toList.isEmpty = true := by
  have := (nil_iff T).2 h
  rw [this]; exact ⟨rfl, rfl⟩
theorem nil_not {T : ByteArray} (h : ¬ T = .empty) : ¬ T.toList = [] ∧ T.toList.isEmpty = false := by
  have : ¬ T.toList = [] := fun e => h ((nil_iff T).1 e)
  exact ⟨this, ne_nil this⟩
/-- The last byte of a text's bytes, one up: what is read, and what the text then is. -/
theorem last_up {W : World} {b n : Nat} {T : ByteArray} (hB : Byt W b (bs T)) (hn : T.size = n + 1) (y : Int) (hy : y = (bs T).getD n 0) (C : Nat) :
    W.cell? ⟨b, n, none⟩ = some (.int .u8 y) ∧ W.frozen? ⟨b, n, none⟩ = false ∧
      (convert 56 9 (.slice (some ⟨b, 0, none⟩) (n + 1) C)).run Try.prog (W.setCell ⟨b, n, none⟩ (.int .u8 ((y + 1) % 256))) = .ok (.string (strOfNums (bump (bs T)))) (W.setCell ⟨b, n, none⟩ (.int .u8 ((y + 1) % 256))) ∧
      W.grownBy (W.setCell ⟨b, n, none⟩ (.int .u8 ((y + 1) % 256))) (some b) := by
  have h1 := hB.2 n (by rw [bs_len]; omega)
  rw [← hy] at h1
  refine ⟨h1.1, h1.2, ?_, ⟨rfl, rfl, rfl, by simp, fun k _ hk => Below.heap_setCell _ _ _ _ (fun e => hk (by rw [e]))⟩⟩
  have h2 := (hB.set n ((y + 1) % 256) (by rw [bs_len]; omega)).seg
  have h3 := seg_string 56 9 5 C h2 Try.underlying56 Try.underlying5 Try.underlying9
  rw [List.length_set, bs_len, hn] at h3
  rw [h3]
  unfold bump
  rw [bs_len, hn, Nat.add_sub_cancel, ← hy]
set_option maxRecDepth 20000 in
set_option maxHeartbeats 400000 in
theorem prefix_c (p : ByteArray) (hm : p.size ≤ maxLen) (w : World) : Calls Try.prog 11 #[.string p] w fun e w' => e = .returned (rv (p, pto p)) ∧ w.grownBy w' none := by
  have HTR : Hid _ := fun w => trim_c p 255 hm w
  have hT : pto p = if trimS p 255 = .empty then .empty else strOfNums (bump (bs (trimS p 255))) := rfl
  have hts : (trimS p 255).size ≤ maxLen := by rw [trim_size]; have := trimN_le (bs p) 255 p.size; omega
  have HNEW : Hid _ := blk_new w 28 #[.string { data := #[] }, .string { data := #[] }]
  generalize trimS p 255 = T at *
  by_cases hT0 : T = .empty
  · rw [if_pos hT0] at hT
    rw [hT]
    have hn := nil_is hT0
    clear hT hT0 hts
    go_enter Try.func11, Try.ntmps11
    go_wp2_with (first
      | (go_at_call 30; go_must (refine (HTR.out _).mono ?_); rintro e w1 ⟨rfl, hw1⟩; (have H1 : Hid (Bk 28 w1 w.heap.size #[.string { data := #[] }, .string { data := #[] }] ∧ w.grownBy w1 none) := (by rw [hw1]; exact HNEW)); clear hw1 HNEW)
      | (refine wpList_store_bk 28 rfl (.tmp 2) (.tmp 10) rfl info28 w.heap.size _ #[.string p, .string .empty] rfl rfl H1.out.1 rfl rfl (two_one _ _) ?_; intro w2 h1 h2; have H2 : Hid (Bk 28 w2 w.heap.size #[.string p, .string .empty] ∧ w.grownBy w2 none) := ⟨h1, gb_newer H1.out.2 h2 (Nat.le_refl _)⟩; clear h1 h2))
    refine bodyPost_ret (results_cell1 Try.results11 _ _ _ ⟨w.heap.size, 0, none⟩ _ rfl (bk_load Try.underlying28 rfl info28 H2.out.1 rfl)) rfl ?_
    exact ⟨rfl, H2.out.2⟩
  · rw [if_neg hT0] at hT
    rw [hT]
    have hn := nil_not hT0
    have hpos : 0 < T.size := by
      rcases Nat.eq_zero_or_pos T.size with h | h
      · exact absurd ((size_none T).1 h) hT0
      · exact h
    obtain ⟨n, hn1⟩ : ∃ n, T.size = n + 1 := ⟨T.size - 1, by omega⟩
    have hm' : T.size ≤ 9223372036854775807 := by unfold maxLen at hts; omega
    clear hT hT0
    obtain ⟨y, hy⟩ : ∃ y, y = (bs T).getD n 0 := ⟨_, rfl⟩
    have hyb := bs_bd T n
    rw [← hy] at hyb
    have HY : Hid (y = (bs T).getD n 0) := hy
    clear hy
    go_enter Try.func11, Try.ntmps11
    go_wp2_with (first
      | (go_at_call 30; go_must (refine (HTR.out _).mono ?_); rintro e w1 ⟨rfl, hw1⟩; (have H1 : Hid (Bk 28 w1 w.heap.size #[.string { data := #[] }, .string { data := #[] }] ∧ w.grownBy w1 none) := (by rw [hw1]; exact HNEW)); clear hw1 HNEW; obtain ⟨W, C, hcv, hB, hG, hC1, hC2⟩ := to_bytes T w1 hts; rw [hn1] at hcv hC1; obtain ⟨hc, hf, hs1, hx⟩ := last_up hB hn1 y HY.out C; have H3 : Hid (Bk 28 (W.setCell ⟨w1.heap.size, n, none⟩ (.int .u8 ((y + 1) % 256))) w.heap.size #[.string { data := #[] }, .string { data := #[] }] ∧ w.grownBy (W.setCell ⟨w1.heap.size, n, none⟩ (.int .u8 ((y + 1) % 256))) none) := ⟨(H1.out.1.grew hG (by simp)).grew hx (fun e => by have e1 := Option.some.inj e; have e2 := lt_of_block H1.out.1; omega), gb_newer (gb_trans H1.out.2 hG) hx H1.out.2.size⟩; clear hB hG hx)
      | (refine wpList_store_bk 28 rfl (.tmp 2) (.tmp 24) rfl info28 w.heap.size _ #[.string p, .string (strOfNums (bump (bs T)))] rfl rfl H3.out.1 rfl rfl (two_one _ _) ?_; intro w2 h1 h2; have H2 : Hid (Bk 28 w2 w.heap.size #[.string p, .string (strOfNums (bump (bs T)))] ∧ w.grownBy w2 none) := ⟨h1, gb_newer H3.out.2 h2 (Nat.le_refl _)⟩; clear h1 h2))
    refine bodyPost_ret (results_cell1 Try.results11 _ _ _ ⟨w.heap.size, 0, none⟩ _ rfl (bk_load Try.underlying28 rfl info28 H2.out.1 rfl)) rfl ?_
    exact ⟨rfl, H2.out.2⟩
theorem bs_trim_at (s : ByteArray) (c : Int) (i : Nat) (h : i < trimN (bs s) c s.size) : (bs (trimS s c)).getD i 0 = (bs s).getD i 0 := by
  rw [bs_trim, bs_len, List.getD_eq_getElem?_getD, List.getD_eq_getElem?_getD, List.getElem?_take_of_lt h]
set_option maxRecDepth 20000 in
set_option maxHeartbeats 1000000 in
theorem gprefix_c (p : ByteArray) (hm : p.size ≤ maxLen) (w : World) : Calls Try.prog 12 #[.string p] w fun e w' => e = .returned (rv (p, pto p)) ∧ w.grownBy w' none := by
  have hm' : p.size ≤ 9223372036854775807 := by unfold maxLen at hm; omega
  have HNEW : Hid _ := blk_new w 29 #[.string { data := #[] }, .string { data := #[] }]
  obtain ⟨W, C, hcv, hB, hG, hC1, hC2⟩ := to_bytes p (w.alloc (.cells #[.string { data := #[] }, .string { data := #[] }] 29)) hm
  have HB : Hid (Byt W (w.heap.size + 1) (bs p)) := by rw [World.size_alloc] at hB; exact hB
  rw [World.size_alloc] at hcv
  have H1 : Hid (Bk 29 W w.heap.size #[.string { data := #[] }, .string { data := #[] }] ∧ w.grownBy W none) := ⟨HNEW.out.1.grew hG (by simp), gb_trans HNEW.out.2 hG⟩
  clear hB hG HNEW
  have HP : Hid (pto p = if trimS p 255 = .empty then .empty else strOfNums (bump (bs (trimS p 255)))) := rfl
  generalize pto p = T at *
  go_enter Try.func12, Try.ntmps12
  go_wp2
  clear hcv
  go_loop [3] (fun v => ∃ k : Nat, k ≤ p.size ∧ v = .slice (some ⟨w.heap.size + 1, 0, none⟩) k C ∧ Hid (trimN (bs p) 255 k = trimN (bs p) 255 p.size)) (fun v => (match v with | .slice _ n _ => n | _ => 0))
  case atStart => exact ⟨p.size, Nat.le_refl _, rfl, rfl⟩
  case round =>
    obtain ⟨k, hk, rfl, ht⟩ := hrel
    cases k with
    | zero =>
      have h0 : trimS p 255 = .empty := by unfold trimS; rw [← ht.out]; exact ext_none p
      have hs1 : (convert 56 9 (.slice (some ⟨w.heap.size + 1, 0, none⟩) 0 C)).run Try.prog W = .ok (.string .empty) W := seg_string 56 9 5 C ((HB.out.take 0).seg) Try.underlying56 Try.underlying5 Try.underlying9
      have HT : Hid (T = .empty) := by show _ = _; rw [HP.out, if_pos h0]
      clear h0 ht HP
      go_wp2_with (first
        | (refine wpList_store_bk 29 rfl (.tmp 2) (.tmp 37) rfl info29 w.heap.size _ #[.string p, .string .empty] rfl rfl H1.out.1 rfl rfl (two_one _ _) ?_; intro w2 h1 h2; have H2 : Hid (Bk 29 w2 w.heap.size #[.string p, .string .empty] ∧ w.grownBy w2 none) := ⟨h1, gb_newer H1.out.2 h2 (Nat.le_refl _)⟩; clear h1 h2))
      refine bodyPost_ret (results_cell1 Try.results12 _ _ _ ⟨w.heap.size, 0, none⟩ _ rfl (bk_load Try.underlying29 rfl info29 H2.out.1 rfl)) rfl ?_
      exact ⟨by rw [HT.out]; rfl, H2.out.2⟩
    | succ n =>
      have hc := HB.out.2 n (by rw [bs_len]; omega)
      obtain ⟨y, hy⟩ : ∃ y, y = (bs p).getD n 0 := ⟨_, rfl⟩
      rw [← hy] at hc
      obtain ⟨hc1, hc2⟩ := hc
      have hyb := bs_bd p n
      rw [← hy] at hyb
      have htn : trimN (bs p) 255 (n + 1) = if y = 255 then trimN (bs p) 255 n else n + 1 := by rw [hy]; rfl
      have HY : Hid (y = (bs p).getD n 0) := hy
      clear hy
      by_cases hy2 : y = 255
      · subst hy2
        rw [if_pos rfl] at htn
        have ht2 : Hid (trimN (bs p) 255 n = trimN (bs p) 255 p.size) := htn.symm.trans ht.out
        clear htn ht
        go_wp2
        go_round
        case rel => exact ⟨n, by omega, rfl, ht2⟩
        case measure => simp
      · rw [if_neg hy2] at htn
        have hS : trimS p 255 = p.extract 0 (n + 1) := by unfold trimS; rw [← ht.out, htn]
        have hbT : bs (trimS p 255) = (bs p).take (n + 1) := by rw [hS, bs_take]
        have hn1 : (trimS p 255).size = n + 1 := by rw [trim_size, ← ht.out, htn]
        have hB2 : Byt W (w.heap.size + 1) (bs (trimS p 255)) := by rw [hbT]; exact HB.out.take _
        have hy3 : y = (bs (trimS p 255)).getD n 0 := by rw [HY.out, bs_trim_at p 255 n (by rw [← ht.out, htn]; omega)]
        have hne : ¬ trimS p 255 = .empty := fun e => by rw [e] at hn1; simp at hn1
        have HT : Hid (T = strOfNums (bump (bs (trimS p 255)))) := by show _ = _; rw [HP.out, if_neg hne]
        obtain ⟨-, -, hs1, hx⟩ := last_up hB2 hn1 y hy3 C
        have H3 : Hid (Bk 29 (W.setCell ⟨w.heap.size + 1, n, none⟩ (.int .u8 ((y + 1) % 256))) w.heap.size #[.string { data := #[] }, .string { data := #[] }] ∧ w.grownBy (W.setCell ⟨w.heap.size + 1, n, none⟩ (.int .u8 ((y + 1) % 256))) none) := ⟨H1.out.1.grew hx (by simp), gb_newer H1.out.2 hx (by omega)⟩
        rw [show (y + 1) % 256 = y + 1 from by omega] at hs1 H3
        generalize bs (trimS p 255) = U at *
        clear htn ht hS hbT hn1 hB2 hy3 hne hx
        go_wp2_with (first
          | (refine wpList_store_bk 29 rfl (.tmp 2) (.tmp 37) rfl info29 w.heap.size _ #[.string p, .string (strOfNums (bump U))] rfl rfl H3.out.1 rfl rfl (two_one _ _) ?_; intro w2 h1 h2; have H2 : Hid (Bk 29 w2 w.heap.size #[.string p, .string (strOfNums (bump U))] ∧ w.grownBy w2 none) := ⟨h1, gb_newer H3.out.2 h2 (Nat.le_refl _)⟩; clear h1 h2))
        refine bodyPost_ret (results_cell1 Try.results12 _ _ _ ⟨w.heap.size, 0, none⟩ _ rfl (bk_load Try.underlying29 rfl info29 H2.out.1 rfl)) rfl ?_
        exact ⟨by rw [HT.out]; rfl, H2.out.2⟩
end Go.Proofs.Ytggkkpbgnlmfeaa
