/-
  What the document's CheckUpdate answers of an update: the same number as delta's; and the law's plain: the same update as the document's. No condition.
-/
import Derived.Test.YtfbbaodhlniiiaaDCu
import Derived.Test.YtfbbaodhlniiiaaDCg
import Derived.Test.YtfbbaodhlniiiaaDTs
import Derived.Test.YtfbbaodhlniiiaaDRl
namespace Go.Proofs.Ytfbbaodhlniiiaa.Dl
open Go.RowKit
set_option linter.unusedVariables false

theorem infoGupd : (Try.prog.info? 96).map (·.size) = some 7 := by kernel_rfl
theorem infoGop : (Try.prog.info? 94).map (·.size) = some 4 := by kernel_rfl
set_option maxRecDepth 20000 in
set_option maxHeartbeats 1000000 in
theorem gchecku_c (q c n k : Int) (key val : ByteArray) (ver : Int) (w : World) : Calls Try.prog 64 #[.agg #[.int .i64 q, .int .i64 c, .int .i64 n, .int .i64 k, .string key, .string val, .int .i64 ver]] w fun r w' => r = .returned (.int .i64 (updE q c n k key val ver)) ∧ w.grownBy w' none := by
  have HK : Hid (∀ W, Calls Try.prog 89 #[.agg #[.int .i64 k, .string key, .string val, .int .i64 ver]] W fun r w' => r = .returned (.int .i64 (opE k key val ver)) ∧ W.grownBy w' none) := gcheck_c k key val ver
  have HN : Hid (w.grownBy (w.alloc (.cells #[.int .i64 q, .int .i64 c, .int .i64 n, .int .i64 k, .string key, .string val, .int .i64 ver] 96)) none) := gb_alloc _ _
  have HR : Hid ((w.alloc (.cells #[.int .i64 q, .int .i64 c, .int .i64 n, .int .i64 k, .string key, .string val, .int .i64 ver] 96)).rangeAt w.heap.size 3 [.int .i64 k, .string key, .string val, .int .i64 ver]) := upd_op (blk_new w 96 _).1
  unfold updE
  by_cases hq : q < 1
  · rw [if_pos (.inl hq)]
    go_enter Try.func64, Try.ntmps64
    go_wp2
    go_ret
    exact ⟨rfl, HN.out⟩
  by_cases gq : 1152921504606846976 < q
  · rw [if_pos (.inr gq)]
    go_enter Try.func64, Try.ntmps64
    go_wp2
    go_ret
    exact ⟨rfl, HN.out⟩
  rw [if_neg (by omega)]
  by_cases hc : c < 1
  · rw [if_pos (.inl hc)]
    go_enter Try.func64, Try.ntmps64
    go_wp2
    go_ret
    exact ⟨rfl, HN.out⟩
  by_cases gc : 16 < c
  · rw [if_pos (.inr gc)]
    go_enter Try.func64, Try.ntmps64
    go_wp2
    go_ret
    exact ⟨rfl, HN.out⟩
  rw [if_neg (by omega)]
  by_cases hn : n < 1
  · rw [if_pos (.inl hn)]
    go_enter Try.func64, Try.ntmps64
    go_wp2
    go_ret
    exact ⟨rfl, HN.out⟩
  by_cases gn : 1152921504606846976 < n
  · rw [if_pos (.inr gn)]
    go_enter Try.func64, Try.ntmps64
    go_wp2
    go_ret
    exact ⟨rfl, HN.out⟩
  rw [if_neg (by omega)]
  go_enter Try.func64, Try.ntmps64
  go_wp2_with (first | (refine wpList_load_mid rfl 94 (.tmp 27) rfl w.heap.size 3 rfl _ _ HR.out Try.underlying94 rfl (by kernel_rfl) ?_) | (go_at_call 89; refine (Calls.mono (HK.out _) ?_); rintro e w2 ⟨rfl, h2⟩))
  go_ret
  exact ⟨rfl, gb_trans HN.out h2⟩
set_option maxRecDepth 20000 in
theorem plainOp_c (k : Int) (key val : ByteArray) (ver : Int) (w : World) : Calls Try.prog 66 #[.agg #[.int .i64 k, .string key, .string val, .int .i64 ver]] w fun r w' => r = .returned (.agg #[.int .i64 k, .string key, .string val, .int .i64 ver]) ∧ w.grownBy w' none := by
  have HX : Hid _ := blk_two w 25 94 #[.int .i64 k, .string key, .string val, .int .i64 ver] #[.int .i64 0, .string { data := #[] }, .string { data := #[] }, .int .i64 0]
  go_enter Try.func66, Try.ntmps66
  go_wp2_with (refine wpList_store_bk 94 rfl (.tmp 2) (.tmp 11) rfl infoGop (w.heap.size + 1) _ #[.int .i64 k, .string key, .string val, .int .i64 ver] rfl rfl HX.out.2.1 rfl rfl (aop_one _ _ _ _) ?_; intro w2 h1 h2; have H2 : Hid (Bk 94 w2 (w.heap.size + 1) #[.int .i64 k, .string key, .string val, .int .i64 ver] ∧ w.grownBy w2 none) := ⟨h1, gb_newer HX.out.2.2 h2 (by omega)⟩; clear h1 h2)
  refine bodyPost_ret (results_cell1 Try.results66 _ _ _ ⟨w.heap.size + 1, 0, none⟩ _ rfl (bk_load Try.underlying94 rfl infoGop H2.out.1 rfl)) rfl ?_
  exact ⟨rfl, H2.out.2⟩
set_option maxRecDepth 20000 in
set_option maxHeartbeats 1000000 in
theorem plain_c (q c n k : Int) (key val : ByteArray) (ver : Int) (w : World) : Calls Try.prog 37 #[.agg #[.int .i64 q, .int .i64 c, .int .i64 n, .int .i64 k, .string key, .string val, .int .i64 ver]] w fun r w' => r = .returned (.agg #[.int .i64 q, .int .i64 c, .int .i64 n, .int .i64 k, .string key, .string val, .int .i64 ver]) ∧ w.grownBy w' none := by
  have HX : Hid _ := blk_two w 27 96 #[.int .i64 q, .int .i64 c, .int .i64 n, .int .i64 k, .string key, .string val, .int .i64 ver] #[.int .i64 0, .int .i64 0, .int .i64 0, .int .i64 0, .string { data := #[] }, .string { data := #[] }, .int .i64 0]
  go_enter Try.func37, Try.ntmps37
  go_wp2_with fail
  obtain ⟨N, hN⟩ : ∃ N, N = w.heap.size + 1 := ⟨_, rfl⟩
  obtain ⟨P, hP⟩ : ∃ P, P = w.heap.size := ⟨_, rfl⟩
  have HX2 := HX.out
  rw [← hN] at HX2 ⊢
  rw [← hP] at HX2 ⊢
  generalize hW1 : World.alloc (World.alloc w _) _ = w1 at *
  have HP : Hid (Bk 27 w1 P #[.int .i64 q, .int .i64 c, .int .i64 n, .int .i64 k, .string key, .string val, .int .i64 ver]) := HX2.1
  have HG : Hid (Bk 96 w1 N #[.int .i64 0, .int .i64 0, .int .i64 0, .int .i64 0, .string { data := #[] }, .string { data := #[] }, .int .i64 0]) := HX2.2.1
  have HN : Hid (w.grownBy w1 none ∧ w.heap.size ≤ N) := ⟨HX2.2.2, by omega⟩
  clear HX HX2 hW1 hN hP
  refine wp_region_lastR (fun W W' => W.grownBy W' none) (fun _ _ _ h k => gb_trans h k) (gb_drewN (gb_refl w1) 1) 10 rfl (by kernel_rfl) [3, 4, 5, 6, 7, 8, 9, 10, 11, 12, 100010] [[], [0], [], [2], [], [4], [], [6], [7], [1, 3, 5, 8], [9]] (by kernel_rfl) (by kernel_rfl) [fun u W => u = .pointer (some ⟨P, 0, none⟩), fun u W => u = .int .i64 q, fun u W => u = .pointer (some ⟨P, 1, none⟩), fun u W => u = .int .i64 c, fun u W => u = .pointer (some ⟨P, 2, none⟩), fun u W => u = .int .i64 n, fun u W => u = .pointer (some ⟨P, 3, none⟩), fun u W => u = .agg #[.int .i64 k, .string key, .string val, .int .i64 ver], fun u W => u = .agg #[.int .i64 k, .string key, .string val, .int .i64 ver], fun u W => u = .agg #[.int .i64 q, .int .i64 c, .int .i64 n, .int .i64 k, .string key, .string val, .int .i64 ver]] ?stable ?step ?last
  case stable =>
    intro i v W W' h hg
    match i, h with
    | 0, h => exact h
    | 1, h => exact h
    | 2, h => exact h
    | 3, h => exact h
    | 4, h => exact h
    | 5, h => exact h
    | 6, h => exact h
    | 7, h => exact h
    | 8, h => exact h
    | 9, h => exact h
    | i + 10, h => exact trivial
  case step =>
    intro f W A hA hg i o hin ho hu K hK
    match i, hin, ho, hu, hK with
    | 0, hin, ho, hu, hK =>
      cases ho
      have hw : w1.grownBy W none := hg
      have e1 : A.eval (.tmp 1) = .pointer (some ⟨P, 0, none⟩) := ev_out hA 1 rfl
      exact ph_field _ _ _ rfl rfl _ (.pointer (some ⟨P, 0, none⟩)) e1 (by kernel_rfl) (hK _ _ (gb_rr W _) rfl)
    | 1, hin, ho, hu, hK =>
      cases ho
      have hw : w1.grownBy W none := hg
      have e3 : A.eval (.tmp 3) = .pointer (some ⟨P, 0, none⟩) := (ev_in hA 3 0 rfl rfl rfl).trans (show f 0 = .pointer (some ⟨P, 0, none⟩) from hu 0 (by decide))
      have hc : W.cell? ⟨P, 0, none⟩ = some (.int .i64 q) := (HP.out.grew hw (by simp)).cell 0
      refine ph_sem rfl rfl (r := .ok (.value (.int .i64 q)) W) ?_ (hK _ _ (gb_rr W _) rfl)
      have eC : ∀ c, A.eval (.const c) = c := fun _ => rfl; have eF : ∀ g, A.eval (.func g) = .func (.func g) #[] #[] := fun _ => rfl; generalize A.eval = ρ at *
      clear hA hu hg
      go_simp
    | 2, hin, ho, hu, hK =>
      cases ho
      have hw : w1.grownBy W none := hg
      have e1 : A.eval (.tmp 1) = .pointer (some ⟨P, 0, none⟩) := ev_out hA 1 rfl
      exact ph_field _ _ _ rfl rfl _ (.pointer (some ⟨P, 1, none⟩)) e1 (by kernel_rfl) (hK _ _ (gb_rr W _) rfl)
    | 3, hin, ho, hu, hK =>
      cases ho
      have hw : w1.grownBy W none := hg
      have e5 : A.eval (.tmp 5) = .pointer (some ⟨P, 1, none⟩) := (ev_in hA 5 2 rfl rfl rfl).trans (show f 2 = .pointer (some ⟨P, 1, none⟩) from hu 2 (by decide))
      have hc : W.cell? ⟨P, 1, none⟩ = some (.int .i64 c) := (HP.out.grew hw (by simp)).cell 1
      refine ph_sem rfl rfl (r := .ok (.value (.int .i64 c)) W) ?_ (hK _ _ (gb_rr W _) rfl)
      have eC : ∀ c, A.eval (.const c) = c := fun _ => rfl; have eF : ∀ g, A.eval (.func g) = .func (.func g) #[] #[] := fun _ => rfl; generalize A.eval = ρ at *
      clear hA hu hg
      go_simp
    | 4, hin, ho, hu, hK =>
      cases ho
      have hw : w1.grownBy W none := hg
      have e1 : A.eval (.tmp 1) = .pointer (some ⟨P, 0, none⟩) := ev_out hA 1 rfl
      exact ph_field _ _ _ rfl rfl _ (.pointer (some ⟨P, 2, none⟩)) e1 (by kernel_rfl) (hK _ _ (gb_rr W _) rfl)
    | 5, hin, ho, hu, hK =>
      cases ho
      have hw : w1.grownBy W none := hg
      have e7 : A.eval (.tmp 7) = .pointer (some ⟨P, 2, none⟩) := (ev_in hA 7 4 rfl rfl rfl).trans (show f 4 = .pointer (some ⟨P, 2, none⟩) from hu 4 (by decide))
      have hc : W.cell? ⟨P, 2, none⟩ = some (.int .i64 n) := (HP.out.grew hw (by simp)).cell 2
      refine ph_sem rfl rfl (r := .ok (.value (.int .i64 n)) W) ?_ (hK _ _ (gb_rr W _) rfl)
      have eC : ∀ c, A.eval (.const c) = c := fun _ => rfl; have eF : ∀ g, A.eval (.func g) = .func (.func g) #[] #[] := fun _ => rfl; generalize A.eval = ρ at *
      clear hA hu hg
      go_simp
    | 6, hin, ho, hu, hK =>
      cases ho
      have hw : w1.grownBy W none := hg
      have e1 : A.eval (.tmp 1) = .pointer (some ⟨P, 0, none⟩) := ev_out hA 1 rfl
      exact ph_field _ _ _ rfl rfl _ (.pointer (some ⟨P, 3, none⟩)) e1 (by kernel_rfl) (hK _ _ (gb_rr W _) rfl)
    | 7, hin, ho, hu, hK =>
      cases ho
      have hw : w1.grownBy W none := hg
      have e9 : A.eval (.tmp 9) = .pointer (some ⟨P, 3, none⟩) := (ev_in hA 9 6 rfl rfl rfl).trans (show f 6 = .pointer (some ⟨P, 3, none⟩) from hu 6 (by decide))
      exact ph_load rfl 25 _ rfl Try.underlying25 rfl P 3 [.int .i64 k, .string key, .string val, .int .i64 ver] (by kernel_rfl) e9 (upd_op (HP.out.grew hw (by simp))) (hK _ _ (gb_rr W _) rfl)
    | 8, hin, ho, hu, hK =>
      cases ho
      have hw : w1.grownBy W none := hg
      have e10 : A.eval (.tmp 10) = .agg #[.int .i64 k, .string key, .string val, .int .i64 ver] := (ev_in hA 10 7 rfl rfl rfl).trans (show f 7 = .agg #[.int .i64 k, .string key, .string val, .int .i64 ver] from hu 7 (by decide))
      refine ph_fn 66 _ _ rfl rfl #[.agg #[.int .i64 k, .string key, .string val, .int .i64 ver]] (by simp [e10]) (by kernel_rfl) ?_
      refine (Calls.mono (plainOp_c k key val ver W) ?_)
      rintro e W' ⟨rfl, hq⟩
      exact ⟨_, rfl, hK _ _ hq rfl⟩
    | 9, hin, ho, hu, hK =>
      cases ho
      have hw : w1.grownBy W none := hg
      have e4 : A.eval (.tmp 4) = .int .i64 q := (ev_in hA 4 1 rfl rfl rfl).trans (show f 1 = .int .i64 q from hu 1 (by decide))
      have e6 : A.eval (.tmp 6) = .int .i64 c := (ev_in hA 6 3 rfl rfl rfl).trans (show f 3 = .int .i64 c from hu 3 (by decide))
      have e8 : A.eval (.tmp 8) = .int .i64 n := (ev_in hA 8 5 rfl rfl rfl).trans (show f 5 = .int .i64 n from hu 5 (by decide))
      have e11 : A.eval (.tmp 11) = .agg #[.int .i64 k, .string key, .string val, .int .i64 ver] := (ev_in hA 11 8 rfl rfl rfl).trans (show f 8 = .agg #[.int .i64 k, .string key, .string val, .int .i64 ver] from hu 8 (by decide))
      refine ph_sem rfl rfl (r := .ok (.value (.agg #[.int .i64 q, .int .i64 c, .int .i64 n, .int .i64 k, .string key, .string val, .int .i64 ver])) W) ?_ (hK _ _ (gb_rr W _) rfl)
      have eC : ∀ c, A.eval (.const c) = c := fun _ => rfl; have eF : ∀ g, A.eval (.func g) = .func (.func g) #[] #[] := fun _ => rfl; generalize A.eval = ρ at *
      clear hA hu hg hw
      go_simp
    | i + 10, hin, ho, hu, hK => omega
  case last =>
    intro f W A hA hg hu o ho K hK
    cases ho
    have hw : w1.grownBy W none := hg
    have e12 : A.eval (.tmp 12) = .agg #[.int .i64 q, .int .i64 c, .int .i64 n, .int .i64 k, .string key, .string val, .int .i64 ver] := (ev_in hA 12 9 rfl rfl rfl).trans (show f 9 = .agg #[.int .i64 q, .int .i64 c, .int .i64 n, .int .i64 k, .string key, .string val, .int .i64 ver] from hu 9 (by decide))
    have e2 : A.eval (.tmp 2) = .pointer (some ⟨N, 0, none⟩) := ev_out hA 2 rfl
    obtain ⟨W2, s1, s2, s3⟩ := bk_store (P := Try.prog) infoGupd (HG.out.grew hw (by simp)) rfl rfl (upd_one q c n k key val ver)
    refine ph_store _ _ _ rfl rfl ⟨N, 0, none⟩ _ e2 e12 W2 s1 (hK _ _ ?_)
    have H2 : Hid (Bk 96 W2 N #[.int .i64 q, .int .i64 c, .int .i64 n, .int .i64 k, .string key, .string val, .int .i64 ver] ∧ w.grownBy W2 none) := ⟨s2, gb_newer (gb_trans HN.out.1 hw) s3 HN.out.2⟩
    refine (by assumption : ∀ (a : Act) (w : World), Code.wp Try.prog Code.ret _ a w → _) _ W2 ?_
    refine wp_ret ?_
    try simp only [Exit.then]
    refine bodyPost_ret (results_cell1 Try.results37 _ _ _ ⟨N, 0, none⟩ _ ?_ (bk_load Try.underlying96 rfl infoGupd H2.out.1 rfl)) (by rw [hA]; rfl) ?_
    · exact e2
    · exact ⟨rfl, H2.out.2⟩
end Go.Proofs.Ytfbbaodhlniiiaa.Dl
