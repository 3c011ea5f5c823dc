/-
  What a pack Reader's Row answers: what the plain function rr gives; laws for variables of several cells in a block of their own. Condition: the Reader's bytes can be read, and their length is one that a machine has.
-/
import Derived.Test.YtcdgfghcmeadgaaDoorFb
import Derived.Test.YtcdgfghcmeadgaaDoorPDig
import Derived.Test.YtcdgfghcmeadgaaDoorFa
namespace Go.Proofs.YtcdgfghcmeadgaaDoor
open Go.RowKit
set_option linter.unusedVariables false

theorem infoRow : (Tryd.prog.info? 48).map (·.size) = some 3 := by kernel_rfl
/-- A row as a value. -/
def rowV (k v : List Int) (n : Int) : Array Value := #[.string (strOfNums k), .string (strOfNums v), .int .i64 n]
theorem rowV_one (k v : List Int) (n : Int) : (rowV k v n).all (·.oneCell') = true := by simp [rowV, Value.oneCell']
/-- What Row takes up. -/
def rr (xs : List Int) (p : Nat) : (List Int × List Int × Int) × Nat × Int :=
  if (rt xs p 1024).2.2 ≠ 0 then (([], [], 0), p, (rt xs p 1024).2.2)
  else if (rt xs (rt xs p 1024).2.1 65536).2.2 ≠ 0 then (([], [], 0), p, (rt xs (rt xs p 1024).2.1 65536).2.2)
  else if (ri xs (rt xs (rt xs p 1024).2.1 65536).2.1 1152921504606846976).2.2 ≠ 0 then (([], [], 0), p, (ri xs (rt xs (rt xs p 1024).2.1 65536).2.1 1152921504606846976).2.2)
  else if (rt xs p 1024).1 = [] ∨ (ri xs (rt xs (rt xs p 1024).2.1 65536).2.1 1152921504606846976).1 = 0 then (([], [], 0), p, 32)
  else (((rt xs p 1024).1, (rt xs (rt xs p 1024).2.1 65536).1, (ri xs (rt xs (rt xs p 1024).2.1 65536).2.1 1152921504606846976).1), (ri xs (rt xs (rt xs p 1024).2.1 65536).2.1 1152921504606846976).2.1, 0)

theorem empty_str (k : List Int) (hk : k ≠ []) : (strOfNums k).toList.isEmpty = false := by
  cases k with
  | nil => exact absurd rfl hk
  | cons x l =>
    rw [ByteArray.toList_eq]
    simp [strOfNums]

set_option maxRecDepth 20000 in
theorem row_no (g : Nat) (a : Option Addr) (len cap : Nat) (xs : List Int) (e : Int) (p : Nat) (w : World) (h : RS w g a len cap xs e p) (he : (e == 0) = false) :
    Calls Tryd.prog 83 #[.pointer (some ⟨g, 0, none⟩)] w fun r w' => r = .returned (.agg (rowV [] [] 0)) ∧ RS w' g a len cap xs e p ∧ w.grownBy w' (some g) := by
  have HR : Hid (RS w g a len cap xs e p) := h
  have HT := blk_new w 48 (rowV [] [] 0)
  obtain ⟨N, hN⟩ : ∃ N, N = w.heap.size := ⟨_, rfl⟩
  have HGL : Hid (N = w.heap.size) := hN
  clear h
  go_enter Tryd.func83, Tryd.ntmps83
  go_wp2_with fail
  generalize hW1 : World.alloc w _ = W1
  rw [← hN]
  have H1 : Hid (Bk 48 W1 N (rowV [] [] 0) ∧ w.grownBy W1 none) := by rw [← hW1, hN]; exact HT
  have HR1 : Hid (RS W1 g a len cap xs e p) := HR.out.new H1.out.2
  clear hW1 HT hN
  refine (ready_c g e _ _ W1 HR1.out.rdr).mono ?_
  rintro r w1 ⟨rfl, rfl⟩
  go_wp2_with (first
    | (refine wpList_store_bk 48 rfl (.tmp 2) (.tmp 10) rfl infoRow N (rowV [] [] 0) (rowV [] [] 0) rfl rfl H1.out.1 rfl rfl (rowV_one _ _ _) ?_; intro w2 h1 h2; have H2 : Hid (Bk 48 w2 N (rowV [] [] 0) ∧ w1.grownBy w2 (some N)) := ⟨h1, h2⟩; clear h1 h2))
  refine bodyPost_ret (results_cell1 Tryd.results83 _ _ _ ⟨N, 0, none⟩ (.agg (rowV [] [] 0)) rfl (bk_load Tryd.underlying48 rfl infoRow H2.out.1 rfl)) rfl ?_
  have hg2 := gb_newer H1.out.2 H2.out.2 (Nat.le_of_eq HGL.out.symm)
  exact ⟨rfl, HR.out.new hg2, gb_wide hg2 _⟩

set_option maxRecDepth 20000 in
set_option maxHeartbeats 2000000 in
theorem row_ok (g : Nat) (a : Option Addr) (len cap : Nat) (xs : List Int) (p : Nat) (w : World) (h : RS w g a len cap xs 0 p) :
    Calls Tryd.prog 83 #[.pointer (some ⟨g, 0, none⟩)] w fun r w' => r = .returned (.agg (rowV (rr xs p).1.1 (rr xs p).1.2.1 (rr xs p).1.2.2)) ∧ RS w' g a len cap xs (rr xs p).2.2 (rr xs p).2.1 ∧ w.grownBy w' (some g) := by
  have HR : Hid (RS w g a len cap xs 0 p) := h
  have hple := h.le
  have HT := blk_new w 48 (rowV [] [] 0)
  have hgl : g < w.heap.size := lt_of_block h.rdr
  obtain ⟨N, hN⟩ : ∃ N, N = w.heap.size := ⟨_, rfl⟩
  have HGL : Hid (g < N ∧ N = w.heap.size) := ⟨by rw [hN]; exact hgl, hN⟩
  have HC : Hid (rr xs p = _) := rr.eq_1 xs p
  have HKK : Hid (∀ w, RS w g a len cap xs 0 p → Calls Tryd.prog 109 #[.pointer (some ⟨g, 0, none⟩), .int .i64 1024] w fun r w' => r = .returned (.string (strOfNums (rt xs p 1024).1)) ∧ RS w' g a len cap xs (rt xs p 1024).2.2 (rt xs p 1024).2.1 ∧ w.grownBy w' (some g)) := fun w h => text_ok g a len cap xs p 1024 w h (by omega)
  have hkb := rt_bd h.bytes p (by rw [h.seg.1]; exact h.le) 1024
  have hby := h.bytes
  have hsl := h.seg.1
  obtain ⟨KS, KP, KE, hK⟩ : ∃ KS KP KE, rt xs p 1024 = (KS, KP, KE) := ⟨_, _, _, rfl⟩
  rw [hK] at HC HKK hkb
  simp only at HC HKK hkb
  have HVV : Hid (∀ w, RS w g a len cap xs 0 KP → Calls Tryd.prog 109 #[.pointer (some ⟨g, 0, none⟩), .int .i64 65536] w fun r w' => r = .returned (.string (strOfNums (rt xs KP 65536).1)) ∧ RS w' g a len cap xs (rt xs KP 65536).2.2 (rt xs KP 65536).2.1 ∧ w.grownBy w' (some g)) := fun w h => text_ok g a len cap xs KP 65536 w h (by omega)
  have hvb := rt_bd hby KP hkb.1 65536
  obtain ⟨VS, VP, VE, hV⟩ : ∃ VS VP VE, rt xs KP 65536 = (VS, VP, VE) := ⟨_, _, _, rfl⟩
  rw [hV] at HC HVV hvb
  simp only at HC HVV hvb
  have HNN : Hid (∀ w, RS w g a len cap xs 0 VP → Calls Tryd.prog 81 #[.pointer (some ⟨g, 0, none⟩), .int .i64 1152921504606846976] w fun r w' => r = .returned (.int .i64 (ri xs VP 1152921504606846976).1) ∧ RS w' g a len cap xs (ri xs VP 1152921504606846976).2.2 (ri xs VP 1152921504606846976).2.1 ∧ w.grownBy w' (some g)) := fun w h => int_ok g a len cap xs VP 1152921504606846976 w h (by omega)
  have hnb := ri_bd hby VP hvb.1 1152921504606846976
  obtain ⟨NV, NP, NE, hNN⟩ : ∃ NV NP NE, ri xs VP 1152921504606846976 = (NV, NP, NE) := ⟨_, _, _, rfl⟩
  rw [hNN] at HC HNN hnb
  simp only at HC HNN hnb
  obtain ⟨R, hR⟩ : ∃ R, R = rr xs p := ⟨_, rfl⟩
  rw [← hR] at HC ⊢
  have HKB : Hid (KE ≠ 0 → KS = [] ∧ KP = p) := hkb.2.2.2.1
  have HVB : Hid (VE ≠ 0 → VS = [] ∧ VP = KP) := hvb.2.2.2.1
  have HNB : Hid (NE ≠ 0 → NV = 0 ∧ NP = VP) := hnb.2.2.2.2
  clear h hgl hK hV hNN hR hkb hvb hnb hby hsl
  have he0 : (strOfNums []).toList.isEmpty = true := by rw [ByteArray.toList_eq]; rfl
  by_cases hKE : KE = 0
  · subst hKE
    rw [if_neg (by simp)] at HC
    by_cases hVE : VE = 0
    · subst hVE
      rw [if_neg (by simp)] at HC
      by_cases hNE : NE = 0
      · subst hNE
        rw [if_neg (by simp)] at HC
        by_cases hkn : KS = [] ∨ NV = 0
        · rw [if_pos hkn] at HC
          by_cases hk0 : KS = []
          · subst hk0
            clear hkn
            go_enter Tryd.func83, Tryd.ntmps83
            go_wp2_with fail
            generalize hW1 : World.alloc w _ = W1
            rw [← hN]
            have H1 : Hid (Bk 48 W1 N (rowV [] [] 0) ∧ w.grownBy W1 none) := by rw [← hW1, hN]; exact HT
            have HR1 : Hid (RS W1 g a len cap xs 0 p) := HR.out.new H1.out.2
            have c3 := HR1.out.rdr.c3
            clear hW1 HT hN
            refine (ready_c g 0 _ _ W1 HR1.out.rdr).mono ?_
            rintro r w1 ⟨rfl, rfl⟩
            go_wp2_with fail
            refine (HKK.out _ HR1.out).mono ?_
            rintro r w2 ⟨rfl, h1, h2⟩
            have H2 : Hid (RS w2 g a len cap xs 0 KP ∧ w1.grownBy w2 (some g)) := ⟨h1, h2⟩
            clear h1 h2 c3
            go_wp2_with fail
            refine (HVV.out _ H2.out.1).mono ?_
            rintro r w3 ⟨rfl, h1, h2⟩
            have Hw3 : Hid (RS w3 g a len cap xs 0 VP ∧ w1.grownBy w3 (some g)) := ⟨h1, gb_trans H2.out.2 h2⟩
            clear h1 h2
            go_wp2_with fail
            refine (HNN.out _ Hw3.out.1).mono ?_
            rintro r w4 ⟨rfl, h1, h2⟩
            have Hw4 : Hid (RS w4 g a len cap xs 0 NP ∧ w1.grownBy w4 (some g)) := ⟨h1, gb_trans Hw3.out.2 h2⟩
            clear h1 h2
            go_wp2_with fail
            refine (rmust_ok g a len cap xs NP 32 _ rfl Hw4.out.1).mono ?_
            rintro r w5 ⟨rfl, h1, h2⟩
            have H5 : Hid (RS w5 g a len cap xs 32 NP ∧ w1.grownBy w5 (some g)) := ⟨h1, gb_trans Hw4.out.2 h2⟩
            have HB5 : Hid (Bk 48 w5 N (rowV [] [] 0)) := H1.out.1.grew H5.out.2 (fun e => by cases e; have := HGL.out; omega)
            obtain ⟨m1, m2⟩ := h1.moves p hple
            have c3 := h1.rdr.c3
            have f3 := h1.rdr.free 3
            obtain ⟨w6, hw6⟩ : ∃ w6, w5.setCell ⟨g, 3, none⟩ (.int .i64 (p : Int)) = w6 := ⟨_, rfl⟩
            rw [hw6] at m1 m2
            have H6 : Hid (RS w6 g a len cap xs 32 p ∧ w1.grownBy w6 (some g)) := ⟨m1, gb_trans H5.out.2 m2⟩
            have HB6 : Hid (Bk 48 w6 N (rowV [] [] 0)) := HB5.out.grew m2 (fun e => by cases e; have := HGL.out; omega)
            clear h1 h2 m1 m2
            go_wp2_with (first
              | (refine wpList_store_bk 48 rfl (.tmp 2) (.tmp 36) rfl infoRow N (rowV [] [] 0) (rowV [] [] 0) rfl rfl HB6.out rfl rfl (rowV_one _ _ _) ?_; intro w7 h1 h2; have H7 : Hid (Bk 48 w7 N (rowV [] [] 0) ∧ w6.grownBy w7 (some N)) := ⟨h1, h2⟩; clear h1 h2))
            refine bodyPost_ret (results_cell1 Tryd.results83 _ _ _ ⟨N, 0, none⟩ (.agg (rowV [] [] 0)) rfl (bk_load Tryd.underlying48 rfl infoRow H7.out.1 rfl)) rfl ?_
            rw [HC.out]
            have hN2 := HGL.out.2
            have hk : ∀ k, k < w.heap.size → w7.heap[k]? = w6.heap[k]? := fun k hk => H7.out.2.block k (Nat.lt_of_lt_of_le hk (Nat.le_trans H1.out.2.size H6.out.2.size)) (fun e => by cases e; omega)
            have hA : w.grownBy w6 (some g) := gb_trans (gb_wide H1.out.2 _) H6.out.2
            exact ⟨rfl, HR.out.keep H6.out.1 hk (Nat.le_trans hA.size H7.out.2.size), ⟨H7.out.2.os.trans hA.os, H7.out.2.tape.trans hA.tape, H7.out.2.output.trans hA.output, Nat.le_trans hA.size H7.out.2.size, fun k hkl hne => (hk k hkl).trans (hA.block k hkl hne)⟩⟩
          · obtain rfl : NV = 0 := by rcases hkn with h | h; exact absurd h hk0; exact h
            have hem := empty_str KS hk0
            clear hkn hk0
            go_enter Tryd.func83, Tryd.ntmps83
            go_wp2_with fail
            generalize hW1 : World.alloc w _ = W1
            rw [← hN]
            have H1 : Hid (Bk 48 W1 N (rowV [] [] 0) ∧ w.grownBy W1 none) := by rw [← hW1, hN]; exact HT
            have HR1 : Hid (RS W1 g a len cap xs 0 p) := HR.out.new H1.out.2
            have c3 := HR1.out.rdr.c3
            clear hW1 HT hN
            refine (ready_c g 0 _ _ W1 HR1.out.rdr).mono ?_
            rintro r w1 ⟨rfl, rfl⟩
            go_wp2_with fail
            refine (HKK.out _ HR1.out).mono ?_
            rintro r w2 ⟨rfl, h1, h2⟩
            have H2 : Hid (RS w2 g a len cap xs 0 KP ∧ w1.grownBy w2 (some g)) := ⟨h1, h2⟩
            clear h1 h2 c3
            go_wp2_with fail
            refine (HVV.out _ H2.out.1).mono ?_
            rintro r w3 ⟨rfl, h1, h2⟩
            have Hw3 : Hid (RS w3 g a len cap xs 0 VP ∧ w1.grownBy w3 (some g)) := ⟨h1, gb_trans H2.out.2 h2⟩
            clear h1 h2
            go_wp2_with fail
            refine (HNN.out _ Hw3.out.1).mono ?_
            rintro r w4 ⟨rfl, h1, h2⟩
            have Hw4 : Hid (RS w4 g a len cap xs 0 NP ∧ w1.grownBy w4 (some g)) := ⟨h1, gb_trans Hw3.out.2 h2⟩
            clear h1 h2
            go_wp2_with fail
            refine (rmust_ok g a len cap xs NP 32 _ rfl Hw4.out.1).mono ?_
            rintro r w5 ⟨rfl, h1, h2⟩
            have H5 : Hid (RS w5 g a len cap xs 32 NP ∧ w1.grownBy w5 (some g)) := ⟨h1, gb_trans Hw4.out.2 h2⟩
            have HB5 : Hid (Bk 48 w5 N (rowV [] [] 0)) := H1.out.1.grew H5.out.2 (fun e => by cases e; have := HGL.out; omega)
            obtain ⟨m1, m2⟩ := h1.moves p hple
            have c3 := h1.rdr.c3
            have f3 := h1.rdr.free 3
            obtain ⟨w6, hw6⟩ : ∃ w6, w5.setCell ⟨g, 3, none⟩ (.int .i64 (p : Int)) = w6 := ⟨_, rfl⟩
            rw [hw6] at m1 m2
            have H6 : Hid (RS w6 g a len cap xs 32 p ∧ w1.grownBy w6 (some g)) := ⟨m1, gb_trans H5.out.2 m2⟩
            have HB6 : Hid (Bk 48 w6 N (rowV [] [] 0)) := HB5.out.grew m2 (fun e => by cases e; have := HGL.out; omega)
            clear h1 h2 m1 m2
            go_wp2_with (first
              | (refine wpList_store_bk 48 rfl (.tmp 2) (.tmp 36) rfl infoRow N (rowV [] [] 0) (rowV [] [] 0) rfl rfl HB6.out rfl rfl (rowV_one _ _ _) ?_; intro w7 h1 h2; have H7 : Hid (Bk 48 w7 N (rowV [] [] 0) ∧ w6.grownBy w7 (some N)) := ⟨h1, h2⟩; clear h1 h2))
            refine bodyPost_ret (results_cell1 Tryd.results83 _ _ _ ⟨N, 0, none⟩ (.agg (rowV [] [] 0)) rfl (bk_load Tryd.underlying48 rfl infoRow H7.out.1 rfl)) rfl ?_
            rw [HC.out]
            have hN2 := HGL.out.2
            have hk : ∀ k, k < w.heap.size → w7.heap[k]? = w6.heap[k]? := fun k hk => H7.out.2.block k (Nat.lt_of_lt_of_le hk (Nat.le_trans H1.out.2.size H6.out.2.size)) (fun e => by cases e; omega)
            have hA : w.grownBy w6 (some g) := gb_trans (gb_wide H1.out.2 _) H6.out.2
            exact ⟨rfl, HR.out.keep H6.out.1 hk (Nat.le_trans hA.size H7.out.2.size), ⟨H7.out.2.os.trans hA.os, H7.out.2.tape.trans hA.tape, H7.out.2.output.trans hA.output, Nat.le_trans hA.size H7.out.2.size, fun k hkl hne => (hk k hkl).trans (hA.block k hkl hne)⟩⟩
        · rw [if_neg hkn] at HC
          have hem := empty_str KS (fun h => hkn (.inl h))
          have hnz : (NV != 0) = true := by simp; exact fun h => hkn (.inr h)
          clear hkn
          go_enter Tryd.func83, Tryd.ntmps83
          go_wp2_with fail
          generalize hW1 : World.alloc w _ = W1
          rw [← hN]
          have H1 : Hid (Bk 48 W1 N (rowV [] [] 0) ∧ w.grownBy W1 none) := by rw [← hW1, hN]; exact HT
          have HR1 : Hid (RS W1 g a len cap xs 0 p) := HR.out.new H1.out.2
          have c3 := HR1.out.rdr.c3
          clear hW1 HT hN
          refine (ready_c g 0 _ _ W1 HR1.out.rdr).mono ?_
          rintro r w1 ⟨rfl, rfl⟩
          go_wp2_with fail
          refine (HKK.out _ HR1.out).mono ?_
          rintro r w2 ⟨rfl, h1, h2⟩
          have H2 : Hid (RS w2 g a len cap xs 0 KP ∧ w1.grownBy w2 (some g)) := ⟨h1, h2⟩
          clear h1 h2 c3
          go_wp2_with fail
          refine (HVV.out _ H2.out.1).mono ?_
          rintro r w3 ⟨rfl, h1, h2⟩
          have Hw3 : Hid (RS w3 g a len cap xs 0 VP ∧ w1.grownBy w3 (some g)) := ⟨h1, gb_trans H2.out.2 h2⟩
          clear h1 h2
          go_wp2_with fail
          refine (HNN.out _ Hw3.out.1).mono ?_
          rintro r w4 ⟨rfl, h1, h2⟩
          have Hw4 : Hid (RS w4 g a len cap xs 0 NP ∧ w1.grownBy w4 (some g)) := ⟨h1, gb_trans Hw3.out.2 h2⟩
          clear h1 h2
          go_wp2_with fail
          refine (must_r g a len cap xs 0 NP 32 _ Hw4.out.1).mono ?_
          rintro r w6 ⟨rfl, h1, h2⟩
          have H6 : Hid (RS w6 g a len cap xs 0 NP ∧ w1.grownBy w6 (some g)) := ⟨h1, gb_trans Hw4.out.2 h2⟩
          have HB6 : Hid (Bk 48 w6 N (rowV [] [] 0)) := H1.out.1.grew H6.out.2 (fun e => by cases e; have := HGL.out; omega)
          clear h1 h2
          go_wp2_with (first
            | (refine wpList_store_bk 48 rfl (.tmp 2) (.tmp 40) rfl infoRow N (rowV [] [] 0) (rowV KS VS NV) rfl rfl HB6.out rfl rfl (rowV_one _ _ _) ?_; intro w7 h1 h2; have H7 : Hid (Bk 48 w7 N (rowV KS VS NV) ∧ w6.grownBy w7 (some N)) := ⟨h1, h2⟩; clear h1 h2))
          refine bodyPost_ret (results_cell1 Tryd.results83 _ _ _ ⟨N, 0, none⟩ (.agg (rowV KS VS NV)) rfl (bk_load Tryd.underlying48 rfl infoRow H7.out.1 rfl)) rfl ?_
          rw [HC.out]
          have hN2 := HGL.out.2
          have hk : ∀ k, k < w.heap.size → w7.heap[k]? = w6.heap[k]? := fun k hk => H7.out.2.block k (Nat.lt_of_lt_of_le hk (Nat.le_trans H1.out.2.size H6.out.2.size)) (fun e => by cases e; omega)
          have hA : w.grownBy w6 (some g) := gb_trans (gb_wide H1.out.2 _) H6.out.2
          exact ⟨rfl, HR.out.keep H6.out.1 hk (Nat.le_trans hA.size H7.out.2.size), ⟨H7.out.2.os.trans hA.os, H7.out.2.tape.trans hA.tape, H7.out.2.output.trans hA.output, Nat.le_trans hA.size H7.out.2.size, fun k hkl hne => (hk k hkl).trans (hA.block k hkl hne)⟩⟩
      · have hb : (NE == 0) = false := by simp [hNE]
        rw [if_pos hNE] at HC
        obtain ⟨rfl, _⟩ := HNB.out hNE
        clear hNE
        by_cases hk0 : KS = []
        · subst hk0
          go_enter Tryd.func83, Tryd.ntmps83
          go_wp2_with fail
          generalize hW1 : World.alloc w _ = W1
          rw [← hN]
          have H1 : Hid (Bk 48 W1 N (rowV [] [] 0) ∧ w.grownBy W1 none) := by rw [← hW1, hN]; exact HT
          have HR1 : Hid (RS W1 g a len cap xs 0 p) := HR.out.new H1.out.2
          have c3 := HR1.out.rdr.c3
          clear hW1 HT hN
          refine (ready_c g 0 _ _ W1 HR1.out.rdr).mono ?_
          rintro r w1 ⟨rfl, rfl⟩
          go_wp2_with fail
          refine (HKK.out _ HR1.out).mono ?_
          rintro r w2 ⟨rfl, h1, h2⟩
          have H2 : Hid (RS w2 g a len cap xs 0 KP ∧ w1.grownBy w2 (some g)) := ⟨h1, h2⟩
          clear h1 h2 c3
          go_wp2_with fail
          refine (HVV.out _ H2.out.1).mono ?_
          rintro r w3 ⟨rfl, h1, h2⟩
          have Hw3 : Hid (RS w3 g a len cap xs 0 VP ∧ w1.grownBy w3 (some g)) := ⟨h1, gb_trans H2.out.2 h2⟩
          clear h1 h2
          go_wp2_with fail
          refine (HNN.out _ Hw3.out.1).mono ?_
          rintro r w4 ⟨rfl, h1, h2⟩
          have Hw4 : Hid (RS w4 g a len cap xs NE NP ∧ w1.grownBy w4 (some g)) := ⟨h1, gb_trans Hw3.out.2 h2⟩
          clear h1 h2
          go_wp2_with fail
          refine (must_n g a len cap xs NE NP 32 _ Hw4.out.1 hb _).mono ?_
          rintro r w5 ⟨rfl, h1, h2⟩
          have H5 : Hid (RS w5 g a len cap xs NE NP ∧ w1.grownBy w5 (some g)) := ⟨h1, gb_trans Hw4.out.2 h2⟩
          have HB5 : Hid (Bk 48 w5 N (rowV [] [] 0)) := H1.out.1.grew H5.out.2 (fun e => by cases e; have := HGL.out; omega)
          obtain ⟨m1, m2⟩ := h1.moves p hple
          have c3 := h1.rdr.c3
          have f3 := h1.rdr.free 3
          obtain ⟨w6, hw6⟩ : ∃ w6, w5.setCell ⟨g, 3, none⟩ (.int .i64 (p : Int)) = w6 := ⟨_, rfl⟩
          rw [hw6] at m1 m2
          have H6 : Hid (RS w6 g a len cap xs NE p ∧ w1.grownBy w6 (some g)) := ⟨m1, gb_trans H5.out.2 m2⟩
          have HB6 : Hid (Bk 48 w6 N (rowV [] [] 0)) := HB5.out.grew m2 (fun e => by cases e; have := HGL.out; omega)
          clear h1 h2 m1 m2
          go_wp2_with (first
            | (refine wpList_store_bk 48 rfl (.tmp 2) (.tmp 36) rfl infoRow N (rowV [] [] 0) (rowV [] [] 0) rfl rfl HB6.out rfl rfl (rowV_one _ _ _) ?_; intro w7 h1 h2; have H7 : Hid (Bk 48 w7 N (rowV [] [] 0) ∧ w6.grownBy w7 (some N)) := ⟨h1, h2⟩; clear h1 h2))
          refine bodyPost_ret (results_cell1 Tryd.results83 _ _ _ ⟨N, 0, none⟩ (.agg (rowV [] [] 0)) rfl (bk_load Tryd.underlying48 rfl infoRow H7.out.1 rfl)) rfl ?_
          rw [HC.out]
          have hN2 := HGL.out.2
          have hk : ∀ k, k < w.heap.size → w7.heap[k]? = w6.heap[k]? := fun k hk => H7.out.2.block k (Nat.lt_of_lt_of_le hk (Nat.le_trans H1.out.2.size H6.out.2.size)) (fun e => by cases e; omega)
          have hA : w.grownBy w6 (some g) := gb_trans (gb_wide H1.out.2 _) H6.out.2
          exact ⟨rfl, HR.out.keep H6.out.1 hk (Nat.le_trans hA.size H7.out.2.size), ⟨H7.out.2.os.trans hA.os, H7.out.2.tape.trans hA.tape, H7.out.2.output.trans hA.output, Nat.le_trans hA.size H7.out.2.size, fun k hkl hne => (hk k hkl).trans (hA.block k hkl hne)⟩⟩
        · have hem := empty_str KS hk0
          clear hk0
          go_enter Tryd.func83, Tryd.ntmps83
          go_wp2_with fail
          generalize hW1 : World.alloc w _ = W1
          rw [← hN]
          have H1 : Hid (Bk 48 W1 N (rowV [] [] 0) ∧ w.grownBy W1 none) := by rw [← hW1, hN]; exact HT
          have HR1 : Hid (RS W1 g a len cap xs 0 p) := HR.out.new H1.out.2
          have c3 := HR1.out.rdr.c3
          clear hW1 HT hN
          refine (ready_c g 0 _ _ W1 HR1.out.rdr).mono ?_
          rintro r w1 ⟨rfl, rfl⟩
          go_wp2_with fail
          refine (HKK.out _ HR1.out).mono ?_
          rintro r w2 ⟨rfl, h1, h2⟩
          have H2 : Hid (RS w2 g a len cap xs 0 KP ∧ w1.grownBy w2 (some g)) := ⟨h1, h2⟩
          clear h1 h2 c3
          go_wp2_with fail
          refine (HVV.out _ H2.out.1).mono ?_
          rintro r w3 ⟨rfl, h1, h2⟩
          have Hw3 : Hid (RS w3 g a len cap xs 0 VP ∧ w1.grownBy w3 (some g)) := ⟨h1, gb_trans H2.out.2 h2⟩
          clear h1 h2
          go_wp2_with fail
          refine (HNN.out _ Hw3.out.1).mono ?_
          rintro r w4 ⟨rfl, h1, h2⟩
          have Hw4 : Hid (RS w4 g a len cap xs NE NP ∧ w1.grownBy w4 (some g)) := ⟨h1, gb_trans Hw3.out.2 h2⟩
          clear h1 h2
          go_wp2_with fail
          refine (must_n g a len cap xs NE NP 32 _ Hw4.out.1 hb _).mono ?_
          rintro r w5 ⟨rfl, h1, h2⟩
          have H5 : Hid (RS w5 g a len cap xs NE NP ∧ w1.grownBy w5 (some g)) := ⟨h1, gb_trans Hw4.out.2 h2⟩
          have HB5 : Hid (Bk 48 w5 N (rowV [] [] 0)) := H1.out.1.grew H5.out.2 (fun e => by cases e; have := HGL.out; omega)
          obtain ⟨m1, m2⟩ := h1.moves p hple
          have c3 := h1.rdr.c3
          have f3 := h1.rdr.free 3
          obtain ⟨w6, hw6⟩ : ∃ w6, w5.setCell ⟨g, 3, none⟩ (.int .i64 (p : Int)) = w6 := ⟨_, rfl⟩
          rw [hw6] at m1 m2
          have H6 : Hid (RS w6 g a len cap xs NE p ∧ w1.grownBy w6 (some g)) := ⟨m1, gb_trans H5.out.2 m2⟩
          have HB6 : Hid (Bk 48 w6 N (rowV [] [] 0)) := HB5.out.grew m2 (fun e => by cases e; have := HGL.out; omega)
          clear h1 h2 m1 m2
          go_wp2_with (first
            | (refine wpList_store_bk 48 rfl (.tmp 2) (.tmp 36) rfl infoRow N (rowV [] [] 0) (rowV [] [] 0) rfl rfl HB6.out rfl rfl (rowV_one _ _ _) ?_; intro w7 h1 h2; have H7 : Hid (Bk 48 w7 N (rowV [] [] 0) ∧ w6.grownBy w7 (some N)) := ⟨h1, h2⟩; clear h1 h2))
          refine bodyPost_ret (results_cell1 Tryd.results83 _ _ _ ⟨N, 0, none⟩ (.agg (rowV [] [] 0)) rfl (bk_load Tryd.underlying48 rfl infoRow H7.out.1 rfl)) rfl ?_
          rw [HC.out]
          have hN2 := HGL.out.2
          have hk : ∀ k, k < w.heap.size → w7.heap[k]? = w6.heap[k]? := fun k hk => H7.out.2.block k (Nat.lt_of_lt_of_le hk (Nat.le_trans H1.out.2.size H6.out.2.size)) (fun e => by cases e; omega)
          have hA : w.grownBy w6 (some g) := gb_trans (gb_wide H1.out.2 _) H6.out.2
          exact ⟨rfl, HR.out.keep H6.out.1 hk (Nat.le_trans hA.size H7.out.2.size), ⟨H7.out.2.os.trans hA.os, H7.out.2.tape.trans hA.tape, H7.out.2.output.trans hA.output, Nat.le_trans hA.size H7.out.2.size, fun k hkl hne => (hk k hkl).trans (hA.block k hkl hne)⟩⟩
    · have hb : (VE == 0) = false := by simp [hVE]
      rw [if_pos hVE] at HC
      clear hVE
      by_cases hk0 : KS = []
      · subst hk0
        go_enter Tryd.func83, Tryd.ntmps83
        go_wp2_with fail
        generalize hW1 : World.alloc w _ = W1
        rw [← hN]
        have H1 : Hid (Bk 48 W1 N (rowV [] [] 0) ∧ w.grownBy W1 none) := by rw [← hW1, hN]; exact HT
        have HR1 : Hid (RS W1 g a len cap xs 0 p) := HR.out.new H1.out.2
        have c3 := HR1.out.rdr.c3
        clear hW1 HT hN
        refine (ready_c g 0 _ _ W1 HR1.out.rdr).mono ?_
        rintro r w1 ⟨rfl, rfl⟩
        go_wp2_with fail
        refine (HKK.out _ HR1.out).mono ?_
        rintro r w2 ⟨rfl, h1, h2⟩
        have H2 : Hid (RS w2 g a len cap xs 0 KP ∧ w1.grownBy w2 (some g)) := ⟨h1, h2⟩
        clear h1 h2 c3
        go_wp2_with fail
        refine (HVV.out _ H2.out.1).mono ?_
        rintro r w3 ⟨rfl, h1, h2⟩
        have Hw3 : Hid (RS w3 g a len cap xs VE VP ∧ w1.grownBy w3 (some g)) := ⟨h1, gb_trans H2.out.2 h2⟩
        clear h1 h2
        go_wp2_with fail
        refine (int_no g VE _ _ 1152921504606846976 _ Hw3.out.1.rdr hb).mono ?_
        rintro r w4 ⟨rfl, rfl⟩
        go_wp2_with fail
        refine (must_n g a len cap xs VE VP 32 _ Hw3.out.1 hb _).mono ?_
        rintro r w5 ⟨rfl, h1, h2⟩
        have H5 : Hid (RS w5 g a len cap xs VE VP ∧ w1.grownBy w5 (some g)) := ⟨h1, gb_trans Hw3.out.2 h2⟩
        have HB5 : Hid (Bk 48 w5 N (rowV [] [] 0)) := H1.out.1.grew H5.out.2 (fun e => by cases e; have := HGL.out; omega)
        obtain ⟨m1, m2⟩ := h1.moves p hple
        have c3 := h1.rdr.c3
        have f3 := h1.rdr.free 3
        obtain ⟨w6, hw6⟩ : ∃ w6, w5.setCell ⟨g, 3, none⟩ (.int .i64 (p : Int)) = w6 := ⟨_, rfl⟩
        rw [hw6] at m1 m2
        have H6 : Hid (RS w6 g a len cap xs VE p ∧ w1.grownBy w6 (some g)) := ⟨m1, gb_trans H5.out.2 m2⟩
        have HB6 : Hid (Bk 48 w6 N (rowV [] [] 0)) := HB5.out.grew m2 (fun e => by cases e; have := HGL.out; omega)
        clear h1 h2 m1 m2
        go_wp2_with (first
          | (refine wpList_store_bk 48 rfl (.tmp 2) (.tmp 36) rfl infoRow N (rowV [] [] 0) (rowV [] [] 0) rfl rfl HB6.out rfl rfl (rowV_one _ _ _) ?_; intro w7 h1 h2; have H7 : Hid (Bk 48 w7 N (rowV [] [] 0) ∧ w6.grownBy w7 (some N)) := ⟨h1, h2⟩; clear h1 h2))
        refine bodyPost_ret (results_cell1 Tryd.results83 _ _ _ ⟨N, 0, none⟩ (.agg (rowV [] [] 0)) rfl (bk_load Tryd.underlying48 rfl infoRow H7.out.1 rfl)) rfl ?_
        rw [HC.out]
        have hN2 := HGL.out.2
        have hk : ∀ k, k < w.heap.size → w7.heap[k]? = w6.heap[k]? := fun k hk => H7.out.2.block k (Nat.lt_of_lt_of_le hk (Nat.le_trans H1.out.2.size H6.out.2.size)) (fun e => by cases e; omega)
        have hA : w.grownBy w6 (some g) := gb_trans (gb_wide H1.out.2 _) H6.out.2
        exact ⟨rfl, HR.out.keep H6.out.1 hk (Nat.le_trans hA.size H7.out.2.size), ⟨H7.out.2.os.trans hA.os, H7.out.2.tape.trans hA.tape, H7.out.2.output.trans hA.output, Nat.le_trans hA.size H7.out.2.size, fun k hkl hne => (hk k hkl).trans (hA.block k hkl hne)⟩⟩
      · have hem := empty_str KS hk0
        clear hk0
        go_enter Tryd.func83, Tryd.ntmps83
        go_wp2_with fail
        generalize hW1 : World.alloc w _ = W1
        rw [← hN]
        have H1 : Hid (Bk 48 W1 N (rowV [] [] 0) ∧ w.grownBy W1 none) := by rw [← hW1, hN]; exact HT
        have HR1 : Hid (RS W1 g a len cap xs 0 p) := HR.out.new H1.out.2
        have c3 := HR1.out.rdr.c3
        clear hW1 HT hN
        refine (ready_c g 0 _ _ W1 HR1.out.rdr).mono ?_
        rintro r w1 ⟨rfl, rfl⟩
        go_wp2_with fail
        refine (HKK.out _ HR1.out).mono ?_
        rintro r w2 ⟨rfl, h1, h2⟩
        have H2 : Hid (RS w2 g a len cap xs 0 KP ∧ w1.grownBy w2 (some g)) := ⟨h1, h2⟩
        clear h1 h2 c3
        go_wp2_with fail
        refine (HVV.out _ H2.out.1).mono ?_
        rintro r w3 ⟨rfl, h1, h2⟩
        have Hw3 : Hid (RS w3 g a len cap xs VE VP ∧ w1.grownBy w3 (some g)) := ⟨h1, gb_trans H2.out.2 h2⟩
        clear h1 h2
        go_wp2_with fail
        refine (int_no g VE _ _ 1152921504606846976 _ Hw3.out.1.rdr hb).mono ?_
        rintro r w4 ⟨rfl, rfl⟩
        go_wp2_with fail
        refine (must_n g a len cap xs VE VP 32 _ Hw3.out.1 hb _).mono ?_
        rintro r w5 ⟨rfl, h1, h2⟩
        have H5 : Hid (RS w5 g a len cap xs VE VP ∧ w1.grownBy w5 (some g)) := ⟨h1, gb_trans Hw3.out.2 h2⟩
        have HB5 : Hid (Bk 48 w5 N (rowV [] [] 0)) := H1.out.1.grew H5.out.2 (fun e => by cases e; have := HGL.out; omega)
        obtain ⟨m1, m2⟩ := h1.moves p hple
        have c3 := h1.rdr.c3
        have f3 := h1.rdr.free 3
        obtain ⟨w6, hw6⟩ : ∃ w6, w5.setCell ⟨g, 3, none⟩ (.int .i64 (p : Int)) = w6 := ⟨_, rfl⟩
        rw [hw6] at m1 m2
        have H6 : Hid (RS w6 g a len cap xs VE p ∧ w1.grownBy w6 (some g)) := ⟨m1, gb_trans H5.out.2 m2⟩
        have HB6 : Hid (Bk 48 w6 N (rowV [] [] 0)) := HB5.out.grew m2 (fun e => by cases e; have := HGL.out; omega)
        clear h1 h2 m1 m2
        go_wp2_with (first
          | (refine wpList_store_bk 48 rfl (.tmp 2) (.tmp 36) rfl infoRow N (rowV [] [] 0) (rowV [] [] 0) rfl rfl HB6.out rfl rfl (rowV_one _ _ _) ?_; intro w7 h1 h2; have H7 : Hid (Bk 48 w7 N (rowV [] [] 0) ∧ w6.grownBy w7 (some N)) := ⟨h1, h2⟩; clear h1 h2))
        refine bodyPost_ret (results_cell1 Tryd.results83 _ _ _ ⟨N, 0, none⟩ (.agg (rowV [] [] 0)) rfl (bk_load Tryd.underlying48 rfl infoRow H7.out.1 rfl)) rfl ?_
        rw [HC.out]
        have hN2 := HGL.out.2
        have hk : ∀ k, k < w.heap.size → w7.heap[k]? = w6.heap[k]? := fun k hk => H7.out.2.block k (Nat.lt_of_lt_of_le hk (Nat.le_trans H1.out.2.size H6.out.2.size)) (fun e => by cases e; omega)
        have hA : w.grownBy w6 (some g) := gb_trans (gb_wide H1.out.2 _) H6.out.2
        exact ⟨rfl, HR.out.keep H6.out.1 hk (Nat.le_trans hA.size H7.out.2.size), ⟨H7.out.2.os.trans hA.os, H7.out.2.tape.trans hA.tape, H7.out.2.output.trans hA.output, Nat.le_trans hA.size H7.out.2.size, fun k hkl hne => (hk k hkl).trans (hA.block k hkl hne)⟩⟩
  · have hb : (KE == 0) = false := by simp [hKE]
    rw [if_pos hKE] at HC
    obtain ⟨rfl, _⟩ := HKB.out hKE
    clear hKE
    go_enter Tryd.func83, Tryd.ntmps83
    go_wp2_with fail
    generalize hW1 : World.alloc w _ = W1
    rw [← hN]
    have H1 : Hid (Bk 48 W1 N (rowV [] [] 0) ∧ w.grownBy W1 none) := by rw [← hW1, hN]; exact HT
    have HR1 : Hid (RS W1 g a len cap xs 0 p) := HR.out.new H1.out.2
    have c3 := HR1.out.rdr.c3
    clear hW1 HT hN
    refine (ready_c g 0 _ _ W1 HR1.out.rdr).mono ?_
    rintro r w1 ⟨rfl, rfl⟩
    go_wp2_with fail
    refine (HKK.out _ HR1.out).mono ?_
    rintro r w2 ⟨rfl, h1, h2⟩
    have H2 : Hid (RS w2 g a len cap xs KE KP ∧ w1.grownBy w2 (some g)) := ⟨h1, h2⟩
    clear h1 h2 c3
    go_wp2_with fail
    refine (text_no g KE _ _ 65536 w2 H2.out.1.rdr hb).mono ?_
    rintro r w3 ⟨rfl, rfl⟩
    go_wp2_with fail
    refine (int_no g KE _ _ 1152921504606846976 _ H2.out.1.rdr hb).mono ?_
    rintro r w4 ⟨rfl, rfl⟩
    go_wp2_with fail
    refine (must_n g a len cap xs KE KP 32 _ H2.out.1 hb _).mono ?_
    rintro r w5 ⟨rfl, h1, h2⟩
    have H5 : Hid (RS w5 g a len cap xs KE KP ∧ w1.grownBy w5 (some g)) := ⟨h1, gb_trans H2.out.2 h2⟩
    have HB5 : Hid (Bk 48 w5 N (rowV [] [] 0)) := H1.out.1.grew H5.out.2 (fun e => by cases e; have := HGL.out; omega)
    obtain ⟨m1, m2⟩ := h1.moves p hple
    have c3 := h1.rdr.c3
    have f3 := h1.rdr.free 3
    obtain ⟨w6, hw6⟩ : ∃ w6, w5.setCell ⟨g, 3, none⟩ (.int .i64 (p : Int)) = w6 := ⟨_, rfl⟩
    rw [hw6] at m1 m2
    have H6 : Hid (RS w6 g a len cap xs KE p ∧ w1.grownBy w6 (some g)) := ⟨m1, gb_trans H5.out.2 m2⟩
    have HB6 : Hid (Bk 48 w6 N (rowV [] [] 0)) := HB5.out.grew m2 (fun e => by cases e; have := HGL.out; omega)
    clear h1 h2 m1 m2
    go_wp2_with (first
      | (refine wpList_store_bk 48 rfl (.tmp 2) (.tmp 36) rfl infoRow N (rowV [] [] 0) (rowV [] [] 0) rfl rfl HB6.out rfl rfl (rowV_one _ _ _) ?_; intro w7 h1 h2; have H7 : Hid (Bk 48 w7 N (rowV [] [] 0) ∧ w6.grownBy w7 (some N)) := ⟨h1, h2⟩; clear h1 h2))
    refine bodyPost_ret (results_cell1 Tryd.results83 _ _ _ ⟨N, 0, none⟩ (.agg (rowV [] [] 0)) rfl (bk_load Tryd.underlying48 rfl infoRow H7.out.1 rfl)) rfl ?_
    rw [HC.out]
    have hN2 := HGL.out.2
    have hk : ∀ k, k < w.heap.size → w7.heap[k]? = w6.heap[k]? := fun k hk => H7.out.2.block k (Nat.lt_of_lt_of_le hk (Nat.le_trans H1.out.2.size H6.out.2.size)) (fun e => by cases e; omega)
    have hA : w.grownBy w6 (some g) := gb_trans (gb_wide H1.out.2 _) H6.out.2
    exact ⟨rfl, HR.out.keep H6.out.1 hk (Nat.le_trans hA.size H7.out.2.size), ⟨H7.out.2.os.trans hA.os, H7.out.2.tape.trans hA.tape, H7.out.2.output.trans hA.output, Nat.le_trans hA.size H7.out.2.size, fun k hkl hne => (hk k hkl).trans (hA.block k hkl hne)⟩⟩
end Go.Proofs.YtcdgfghcmeadgaaDoor
