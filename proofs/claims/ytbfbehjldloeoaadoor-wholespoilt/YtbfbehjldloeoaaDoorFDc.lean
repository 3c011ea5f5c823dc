/-
  What frame.Decode and frame.One answer, called with whatever bytes. Condition: the table of package crc lies in memory as the program's text lays it; the bytes can be read, and are at most 2^47.
-/
import Derived.Test.YtbfbehjldloeoaaDoorRows
import Derived.Test.YtbfbehjldloeoaaDoorFCu
namespace Go.Proofs.YtbfbehjldloeoaaDoor
set_option linter.unusedVariables false
open Go.RowKit

/-- Where a result of Decode's kind lies: a variable of two cells. -/
theorem fr_new (w : World) : Bk 29 (w.alloc (.cells #[.int .i64 0, .slice none 0 0] 29)) w.heap.size #[.int .i64 0, .slice none 0 0] ∧ Below w.heap.size w (w.alloc (.cells #[.int .i64 0, .slice none 0 0] 29)) := ⟨heap_new w _, (Below.refl _ _).alloc (Nat.le_refl _) _⟩

theorem own_one {B : Nat} {w : World} {u : Value} {n : Nat} {xs : List Int} (X : Int) (h : Own B w u n xs) : #[Value.int .i64 X, u].all (·.oneCell') = true := by
  rcases h.2 with ⟨rfl, _⟩ | ⟨g, cap, cur, rfl, _⟩ <;> simp [Value.oneCell']
theorem Own.store {B N : Nat} {w w' : World} {u : Value} {n : Nat} {xs : List Int} (h : Own B w u n xs) (hg : w.grownBy w' (some N)) (hN : N < B) : Own N w' u n xs := by
  have h' := h.base (Nat.le_of_lt hN)
  refine ⟨h'.1, ?_⟩
  rcases h.2 with h0 | ⟨g, cap, cur, e, hB, hgb, r⟩
  · exact .inl h0
  · exact .inr ⟨g, cap, cur, e, by omega, (hg.block g (lt_of_block hgb) (fun e => by cases e; omega)).trans hgb, r⟩

set_option maxHeartbeats 2000000 in
theorem decode_c (a : Option Addr) (len cap : Nat) (xs : List Int) (w : World) (hlc : len ≤ cap) (hs : Seg .u8 w a len xs) (hx : Bytes xs) (hl : len ≤ 140737488355328) (ht : Tab w) :
    Calls Tryd.prog 10 #[.slice a len cap] w fun e w' => ∃ u, e = .returned (.tuple #[.agg #[.int .i64 (ftp xs), u], .int .i64 ((fnn xs : Nat) : Int), .int .i64 ((fdec xs : Nat) : Int)]) ∧ Own w.heap.size w' u (fbd xs).length (fbd xs) ∧ Below w.heap.size w w' := by
  have hlen := hs.1
  have HS : Hid (Seg .u8 w a len xs) := hs
  have HX : Hid (Bytes xs) := hx
  have HT : Hid (Tab w) := ht
  obtain ⟨N, hN⟩ : ∃ N, N = w.heap.size := ⟨_, rfl⟩
  by_cases h0 : fbeg 1048576 xs = 0
  · obtain ⟨q1, q2, q3, q4, q5⟩ := fbeg_ok h0
    rw [hlen] at q2 q5
    have HS2 : Hid (Seg .u8 w a (flen xs + 14) (xs.take (flen xs + 14))) := hs.take _ q5
    have HX2 : Hid (Bytes (xs.take (flen xs + 14))) := hx.take _
    have HBD : Hid (((xs.take (flen xs + 14)).drop 10).take (flen xs) = fbody xs) := by
      show _ = _
      unfold fbody
      rw [List.drop_take, List.take_take, Nat.min_eq_left (by omega)]
    have HX22 : Hid ((xs.take (flen xs + 14))[2]?.getD 0 = xs[2]?.getD 0) := by show _ = _; rw [List.getElem?_take_of_lt (by omega)]
    have HBL : Hid ((fbody xs).length = flen xs) := by show _ = _; unfold fbody; rw [List.length_take, List.length_drop, hlen]; omega
    obtain ⟨n, hn⟩ : ∃ n, n = flen xs := ⟨_, rfl⟩
    have HTO : Hid (∀ w', Below w.heap.size w w' → Calls Tryd.prog 23 #[.slice a len cap] w' fun e w'' => e = .returned (.int .i64 ((n + 14 : Nat) : Int)) ∧ Below w'.heap.size w' w'') := fun w' hb => by rw [hn]; exact told_c a len cap xs w' (HS.out.below hb) HX.out q2
    rw [← hn] at HS2 HX2 HBD HX22 HBL q4 q5
    have HFN : Hid (flen xs = n) := hn.symm
    cases q6 : holds (xs.take (n + 14)) with
    | false =>
      have HF : Hid (fdec xs = 44) := by show _ = _; unfold fdec fmeet; rw [h0, if_pos rfl, HFN.out, q6]; rfl
      have HR : Hid (ftp xs = 0 ∧ fnn xs = 0 ∧ fbd xs = []) := by unfold ftp fnn fbd; rw [HF.out]; exact ⟨rfl, rfl, rfl⟩
      rw [HF.out, HR.out.1, HR.out.2.1, HR.out.2.2]
      clear hs hx ht hlen HF HR hn
      go_enter Tryd.func10, Tryd.ntmps10
      go_wp2_with (first
        | (go_at_call 22; rw [← hN]; generalize hW0 : World.alloc w _ = W0; have H0 : Hid (Bk 29 W0 N #[.int .i64 0, .slice none 0 0] ∧ Below N w W0 ∧ W0.heap.size = N + 1) := by (rw [← hW0, hN]; exact ⟨(fr_new w).1, (fr_new w).2, by simp⟩)
           have HNW : Hid (N = w.heap.size) := hN
           clear hW0 hN
           go_must (refine (begins_c a len cap xs 1048576 W0 hlc (HS.out.below (HNW.out ▸ H0.out.2.1)) HX.out hl (by omega) (HT.out.below (HNW.out ▸ H0.out.2.1))).mono ?_); rintro e w1 ⟨rfl, hb1⟩; rw [h0]; have H1 : Hid (Bk 29 w1 N #[.int .i64 0, .slice none 0 0] ∧ Below N w w1) := ⟨H0.out.1.below hb1 (by rw [H0.out.2.2]; omega), H0.out.2.1.trans (hb1.mono (by rw [H0.out.2.2]; omega))⟩; clear hb1)
        | (go_at_call 23; go_must (refine (HTO.out w1 (HNW.out ▸ H1.out.2)).mono ?_); rintro e w2 ⟨rfl, hb2⟩; have H2 : Hid (Bk 29 w2 N #[.int .i64 0, .slice none 0 0] ∧ Below N w w2) := ⟨H1.out.1.below hb2 (lt_of_block H1.out.1), H1.out.2.trans (hb2.mono (Nat.le_of_lt (lt_of_block H1.out.1)))⟩; clear hb2)
        | (go_at_call 24; go_must (refine (holds_c a (n + 14) cap (xs.take (n + 14)) w2 (by omega) (HS2.out.below (HNW.out ▸ H2.out.2)) HX2.out (by omega) (HT.out.below (HNW.out ▸ H2.out.2))).mono ?_); rintro e w3 ⟨rfl, hb3⟩; rw [q6]; have H3 : Hid (Bk 29 w3 N #[.int .i64 0, .slice none 0 0] ∧ Below N w w3) := ⟨H2.out.1.below hb3 (lt_of_block H2.out.1), H2.out.2.trans (hb3.mono (Nat.le_of_lt (lt_of_block H2.out.1)))⟩; clear hb3)
        | (refine wpList_store_bk 29 rfl _ _ rfl Tryd.infoFrame N _ _ rfl rfl H3.out.1 rfl rfl (by simp [Value.oneCell']) ?_; intro w4 h4 h4g; have H4 : Hid (Bk 29 w4 N #[.int .i64 0, .slice none 0 0] ∧ Below N w w4) := ⟨h4, H3.out.2.grown h4g (Nat.le_of_lt (lt_of_block H3.out.1)) (fun k hk => by cases hk; omega)⟩; clear h4 h4g))
      refine bodyPost_ret (results_cell3 Tryd.results10 _ _ _ ⟨N, 0, none⟩ _ _ _ rfl rfl rfl (bk_load Tryd.underlying29 rfl Tryd.infoFrame H4.out.1 rfl)) rfl ?_
      rw [← HNW.out]
      exact ⟨_, rfl, own_nil _ _, H4.out.2⟩
    | true =>
      have HF : Hid (fdec xs = 0) := by show _ = _; unfold fdec fmeet; rw [h0, if_pos rfl, HFN.out, q6]; rfl
      have HR : Hid (ftp xs = xs[2]?.getD 0 ∧ fnn xs = n + 14 ∧ fbd xs = fbody xs) := by unfold ftp fnn fbd; rw [HF.out, HFN.out]; exact ⟨rfl, rfl, rfl⟩
      rw [HF.out, HR.out.1, HR.out.2.1, HR.out.2.2, HBL.out]
      clear hs hx ht hlen HF HR hn
      obtain ⟨X2, hX2⟩ : ∃ X, X = xs[2]?.getD (0 : Int) := ⟨_, rfl⟩
      rw [← hX2] at HX22 ⊢
      clear hX2
      go_enter Tryd.func10, Tryd.ntmps10
      go_wp2_with (first
        | (go_at_call 22; rw [← hN]; generalize hW0 : World.alloc w _ = W0; have H0 : Hid (Bk 29 W0 N #[.int .i64 0, .slice none 0 0] ∧ Below N w W0 ∧ W0.heap.size = N + 1) := by (rw [← hW0, hN]; exact ⟨(fr_new w).1, (fr_new w).2, by simp⟩)
           have HNW : Hid (N = w.heap.size) := hN
           clear hW0 hN
           go_must (refine (begins_c a len cap xs 1048576 W0 hlc (HS.out.below (HNW.out ▸ H0.out.2.1)) HX.out hl (by omega) (HT.out.below (HNW.out ▸ H0.out.2.1))).mono ?_); rintro e w1 ⟨rfl, hb1⟩; rw [h0]; have H1 : Hid (Bk 29 w1 N #[.int .i64 0, .slice none 0 0] ∧ Below N w w1) := ⟨H0.out.1.below hb1 (by rw [H0.out.2.2]; omega), H0.out.2.1.trans (hb1.mono (by rw [H0.out.2.2]; omega))⟩; clear hb1)
        | (go_at_call 23; go_must (refine (HTO.out w1 (HNW.out ▸ H1.out.2)).mono ?_); rintro e w2 ⟨rfl, hb2⟩; have H2 : Hid (Bk 29 w2 N #[.int .i64 0, .slice none 0 0] ∧ Below N w w2) := ⟨H1.out.1.below hb2 (lt_of_block H1.out.1), H1.out.2.trans (hb2.mono (Nat.le_of_lt (lt_of_block H1.out.1)))⟩; clear hb2)
        | (go_at_call 24; go_must (refine (holds_c a (n + 14) cap (xs.take (n + 14)) w2 (by omega) (HS2.out.below (HNW.out ▸ H2.out.2)) HX2.out (by omega) (HT.out.below (HNW.out ▸ H2.out.2))).mono ?_); rintro e w3 ⟨rfl, hb3⟩; rw [q6]; have H3 : Hid (Bk 29 w3 N #[.int .i64 0, .slice none 0 0] ∧ Below N w w3) := ⟨H2.out.1.below hb3 (lt_of_block H2.out.1), H2.out.2.trans (hb3.mono (Nat.le_of_lt (lt_of_block H2.out.1)))⟩; clear hb3)
        | (go_at_call 25; go_must (refine (cut_c a n cap (xs.take (n + 14)) w3 (HS2.out.below (HNW.out ▸ H3.out.2)) HX2.out q4 (by omega)).mono ?_); rintro e w5 ⟨u, rfl, hu5, hb5⟩; rw [HX22.out]; rw [HBD.out] at hu5; have H5 : Hid (Bk 29 w5 N #[.int .i64 0, .slice none 0 0] ∧ Below N w w5 ∧ Own w3.heap.size w5 u n (fbody xs) ∧ N < w3.heap.size) := ⟨H3.out.1.below hb5 (lt_of_block H3.out.1), H3.out.2.trans (hb5.mono (Nat.le_of_lt (lt_of_block H3.out.1))), hu5, lt_of_block H3.out.1⟩; clear hb5 hu5)
        | (refine wpList_store_bk 29 rfl _ _ rfl Tryd.infoFrame N _ _ rfl rfl H5.out.1 rfl rfl (own_one X2 H5.out.2.2.1) ?_; intro w4 h4 h4g; have H4 : Hid (Bk 29 w4 N #[.int .i64 X2, u] ∧ Below N w w4 ∧ Own N w4 u n (fbody xs)) := ⟨h4, H5.out.2.1.grown h4g (Nat.le_of_lt (lt_of_block H5.out.1)) (fun k hk => by cases hk; omega), Own.store H5.out.2.2.1 h4g H5.out.2.2.2⟩; clear h4 h4g))
      refine bodyPost_ret (results_cell3 Tryd.results10 _ _ _ ⟨N, 0, none⟩ _ _ _ rfl rfl rfl (bk_load Tryd.underlying29 rfl Tryd.infoFrame H4.out.1 rfl)) rfl ?_
      rw [← HNW.out]
      exact ⟨_, rfl, H4.out.2.2, H4.out.2.1⟩
  · have HF : Hid (fdec xs = fbeg 1048576 xs) := by show _ = _; unfold fdec fmeet; rw [if_neg h0]
    have HR : Hid (ftp xs = 0 ∧ fnn xs = 0 ∧ fbd xs = []) := by unfold ftp fnn fbd; rw [HF.out, if_neg h0, if_neg h0, if_neg h0]; exact ⟨rfl, rfl, rfl⟩
    rw [HF.out, HR.out.1, HR.out.2.1, HR.out.2.2]
    clear hs hx ht hlen HF HR
    obtain ⟨E, hE⟩ : ∃ E : Nat, E = fbeg 1048576 xs := ⟨_, rfl⟩
    rw [← hE] at h0 ⊢
    replace hE : Hid _ := hE
    have q0 : (((E : Nat) : Int) == 0) = false := by simp; omega
    have q0' : (((E : Nat) : Int) != 0) = true := by simp; omega
    go_enter Tryd.func10, Tryd.ntmps10
    go_wp2_with (first
        | (go_at_call 22; rw [← hN]; generalize hW0 : World.alloc w _ = W0; have H0 : Hid (Bk 29 W0 N #[.int .i64 0, .slice none 0 0] ∧ Below N w W0 ∧ W0.heap.size = N + 1) := by (rw [← hW0, hN]; exact ⟨(fr_new w).1, (fr_new w).2, by simp⟩)
           have HNW : Hid (N = w.heap.size) := hN
           clear hW0 hN
           go_must (refine (begins_c a len cap xs 1048576 W0 hlc (HS.out.below (HNW.out ▸ H0.out.2.1)) HX.out hl (by omega) (HT.out.below (HNW.out ▸ H0.out.2.1))).mono ?_); rintro e w1 ⟨rfl, hb1⟩; rw [← hE.out]; have H1 : Hid (Bk 29 w1 N #[.int .i64 0, .slice none 0 0] ∧ Below N w w1) := ⟨H0.out.1.below hb1 (by rw [H0.out.2.2]; omega), H0.out.2.1.trans (hb1.mono (by rw [H0.out.2.2]; omega))⟩; clear hb1)
        | (refine wpList_store_bk 29 rfl _ _ rfl Tryd.infoFrame N _ _ rfl rfl H1.out.1 rfl rfl (by simp [Value.oneCell']) ?_; intro w4 h4 h4g; have H4 : Hid (Bk 29 w4 N #[.int .i64 0, .slice none 0 0] ∧ Below N w w4) := ⟨h4, H1.out.2.grown h4g (Nat.le_of_lt (lt_of_block H1.out.1)) (fun k hk => by cases hk; omega)⟩; clear h4 h4g))
    refine bodyPost_ret (results_cell3 Tryd.results10 _ _ _ ⟨N, 0, none⟩ _ _ _ rfl rfl rfl (bk_load Tryd.underlying29 rfl Tryd.infoFrame H4.out.1 rfl)) rfl ?_
    rw [← HNW.out]
    exact ⟨_, rfl, own_nil _ _, H4.out.2⟩

/-- One's error. -/
def fone (xs : List Int) : Nat := if fdec xs = 0 ∧ flen xs + 14 < xs.length then 45 else fdec xs
def ftp1 (xs : List Int) : Int := if fone xs = 0 then xs[2]?.getD 0 else 0
def fbd1 (xs : List Int) : List Int := if fone xs = 0 then fbody xs else []
theorem fone_ok {xs : List Int} (h : fone xs = 0) : fdec xs = 0 ∧ xs.length = flen xs + 14 := by
  unfold fone at h
  split at h
  · cases h
  · rename_i h'
    have := fbeg_ok (fmeet_ok (most := 1048576) h).1
    exact ⟨h, by omega⟩

theorem one_mid {w w1 w2 : World} {N B n : Nat} {u : Value} {ys : List Int} {cs : Array Value} (h1 : Bk 29 w1 N #[.int .i64 0, .slice none 0 0]) (hb : Below N w w1) (hu : Own B w1 u n ys) (h2 : Bk 29 w2 w1.heap.size cs) (hg : (w1.alloc (.cells #[.int .i64 0, .slice none 0 0] 29)).grownBy w2 (some w1.heap.size)) :
    Bk 29 w2 w1.heap.size cs ∧ Bk 29 w2 N #[.int .i64 0, .slice none 0 0] ∧ Below N w w2 ∧ Own B w2 u n ys := by
  have hl := lt_of_block h1
  have hB : Below w1.heap.size w1 w2 := ((Below.refl _ _).alloc (Nat.le_refl _) _).grown hg (by simp) (fun k hk => by cases hk; exact Nat.le_refl _)
  exact ⟨h2, h1.below hB hl, hb.trans (hB.mono (Nat.le_of_lt hl)), hu.below hB⟩

end Go.Proofs.YtbfbehjldloeoaaDoor
