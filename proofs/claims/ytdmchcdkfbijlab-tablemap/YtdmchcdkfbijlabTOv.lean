/-
  What table's over answers: a new node. Condition: fewer than 2^62 rows and bytes.
-/
import Derived.Test.YtdmchcdkfbijlabTTr
import Derived.Test.YtdmchcdkfbijlabTSt
namespace Go.Proofs.Ytdmchcdkfbijlab
open Go.RowKit
set_option linter.unusedVariables false

set_option maxRecDepth 20000 in
set_option maxHeartbeats 1000000 in
theorem over_c (o : Nat → Prop) (x : Rw) (pl pr : Option Addr) (hl hr : Nat) (l r : List Rw) (w : World) (ob : ∀ b, w.heap.size ≤ b → o b) (h1 : Tr o w pl hl l) (h2 : Tr o w pr hr r) (hn : l.length + r.length < 4611686018427387903) (hz : szs l + sz x + szs r < 4611686018427387904) :
    Calls Try.prog 33 #[.pointer pl, iv x, .pointer pr] w fun e w' => ∃ p, e = .returned (.pointer (some p)) ∧ Tr o w' (some p) (max hl hr + 1) (l ++ x :: r) ∧ w.grownBy w' none := by
  have bl := h1.len
  have br := h2.len
  obtain ⟨k, v, n⟩ := x
  have HN0 : w.grownBy (w.alloc (.cells #[.string k, .string v, .int .i64 n] 52)) none := gb_alloc _ _
  have HN : Hid (w.grownBy (w.alloc (.cells #[.string k, .string v, .int .i64 n] 52)) none) := HN0
  have HN2 : Hid (Bk 52 (w.alloc (.cells #[.string k, .string v, .int .i64 n] 52)) w.heap.size #[.string k, .string v, .int .i64 n]) := (blk_new w 52 _).1
  have HHl : Hid (∀ W, (w.alloc (.cells #[.string k, .string v, .int .i64 n] 52)).grownBy W none → Calls Try.prog 44 #[.pointer pl] W fun r w' => r = .returned (.int .i64 (hl : Nat)) ∧ w' = W) := fun W hg => height_c o _ _ _ _ (h1.gb (gb_trans HN0 hg))
  have HHr : Hid (∀ W, (w.alloc (.cells #[.string k, .string v, .int .i64 n] 52)).grownBy W none → Calls Try.prog 44 #[.pointer pr] W fun r w' => r = .returned (.int .i64 (hr : Nat)) ∧ w' = W) := fun W hg => height_c o _ _ _ _ (h2.gb (gb_trans HN0 hg))
  have HCl : Hid (∀ W, (w.alloc (.cells #[.string k, .string v, .int .i64 n] 52)).grownBy W none → Calls Try.prog 21 #[.pointer pl] W fun e w' => e = .returned (.int .i64 (l.length : Nat)) ∧ w' = W) := fun W hg => count_c o _ _ _ _ (h1.gb (gb_trans HN0 hg))
  have HCr : Hid (∀ W, (w.alloc (.cells #[.string k, .string v, .int .i64 n] 52)).grownBy W none → Calls Try.prog 21 #[.pointer pr] W fun e w' => e = .returned (.int .i64 (r.length : Nat)) ∧ w' = W) := fun W hg => count_c o _ _ _ _ (h2.gb (gb_trans HN0 hg))
  have HSl : Hid (∀ W, (w.alloc (.cells #[.string k, .string v, .int .i64 n] 52)).grownBy W none → Calls Try.prog 25 #[.pointer pl] W fun e w' => e = .returned (.int .i64 (szs l : Nat)) ∧ w' = W) := fun W hg => size_c o _ _ _ _ (h1.gb (gb_trans HN0 hg))
  have HSr : Hid (∀ W, (w.alloc (.cells #[.string k, .string v, .int .i64 n] 52)).grownBy W none → Calls Try.prog 25 #[.pointer pr] W fun e w' => e = .returned (.int .i64 (szs r : Nat)) ∧ w' = W) := fun W hg => size_c o _ _ _ _ (h2.gb (gb_trans HN0 hg))
  have HRs : Hid (∀ W, Calls Try.prog 75 #[.agg #[.string k, .string v, .int .i64 n]] W fun e w' => e = .returned (.int .i64 (sz (k, v, n) : Nat)) ∧ W.grownBy w' none) := fun W => rsize_c (k, v, n) W (by omega)
  have HF : Hid (∀ W p, w.heap.size ≤ p → Bk 62 W p #[.string k, .string v, .int .i64 n, .pointer pl, .pointer pr, .int .i64 (max hl hr + 1 : Nat), .int .i64 (l.length + 1 + r.length : Nat), .int .i64 (szs l + sz (k, v, n) + szs r : Nat)] → w.grownBy W none → Tr o W (some ⟨p, 0, none⟩) (max hl hr + 1) (l ++ (k, v, n) :: r)) := fun W p hp hb hg => tr_mk (ob p hp) hb (h1.gb hg) (h2.gb hg) rfl (by simp; omega) (szs_mid l r (k, v, n)).symm
  unfold iv
  have hmx : (if hl < hr then (hr : Int) else (hl : Int)) = ((max hl hr : Nat) : Int) := by split <;> omega
  have hm1 : max hl hr < 4611686018427387904 := by omega
  clear h1 h2 bl br ob HN0
  generalize sz (k, v, n) = zx at *
  generalize szs l = zl at *
  generalize szs r = zr at *
  generalize l.length = L at *
  generalize r.length = R at *
  generalize max hl hr = M at *
  go_enter Try.func33, Try.ntmps33
  go_wp2_with fail
  generalize hW1 : World.alloc w _ = w1 at *
  clear hW1
  obtain ⟨N, hN⟩ : ∃ N, N = w.heap.size := ⟨_, rfl⟩
  rw [← hN] at HN2 ⊢
  clear hN
  refine wp_region_phi none rfl (by kernel_rfl) [7, 8, 9, 10, 11, 12, 13, 14, 15, 16, 17, 18, 19, 20, 21, 22, 23, 24, 25, 26, 27, 28, 29, 30, 31, 32, 6] [[], [], [], [], [3], [], [5], [4, 6], [7], [], [9], [10], [], [12], [11, 13], [], [15], [], [17], [18], [16, 19], [], [21], [20, 22], [0, 1, 2, 8, 14, 23], [24], [25]] (by kernel_rfl) [fun u W => u = .agg #[.string k, .string v, .int .i64 n], fun u W => u = .pointer pl, fun u W => u = .pointer pr, fun u W => u = .pointer pl, fun u W => u = .int .i64 (hl : Nat), fun u W => u = .pointer pr, fun u W => u = .int .i64 (hr : Nat), fun u W => u = .int .i64 (M : Nat), fun u W => u = .int .i64 (M + 1 : Nat), fun u W => u = .pointer pl, fun u W => u = .int .i64 (L : Nat), fun u W => u = .int .i64 (L + 1 : Nat), fun u W => u = .pointer pr, fun u W => u = .int .i64 (R : Nat), fun u W => u = .int .i64 (L + 1 + R : Nat), fun u W => u = .pointer pl, fun u W => u = .int .i64 (zl : Nat), fun u W => u = .agg #[.string k, .string v, .int .i64 n], fun u W => u = .iface 52 (.agg #[.string k, .string v, .int .i64 n]), fun u W => u = .int .i64 (zx : Nat), fun u W => u = .int .i64 (zl + zx : Nat), fun u W => u = .pointer pr, fun u W => u = .int .i64 (zr : Nat), fun u W => u = .int .i64 (zl + zx + zr : Nat), fun u W => u = .agg #[.string k, .string v, .int .i64 n, .pointer pl, .pointer pr, .int .i64 (M + 1 : Nat), .int .i64 (L + 1 + R : Nat), .int .i64 (zl + zx + zr : Nat)], fun u W => ∃ q, u = .pointer (some ⟨q, 0, none⟩) ∧ w.heap.size ≤ q ∧ Bk 62 W q #[.string k, .string v, .int .i64 n, .pointer pl, .pointer pr, .int .i64 (M + 1 : Nat), .int .i64 (L + 1 + R : Nat), .int .i64 (zl + zx + zr : Nat)], fun u W => ∃ q, u = .pointer (some ⟨q, 0, none⟩) ∧ w.heap.size ≤ q ∧ Bk 62 W q #[.string k, .string v, .int .i64 n, .pointer pl, .pointer pr, .int .i64 (M + 1 : Nat), .int .i64 (L + 1 + R : Nat), .int .i64 (zl + zx + zr : Nat)]] ?stable ?step ?fin
  case stable =>
    intro i v W W' h hg
    match i, h with
    | 0, h => exact h
    | 1, h => exact h
    | 2, h => exact h
    | 3, h => exact h
    | 4, h => exact h
    | 5, h => exact h
    | 6, h => exact h
    | 7, h => exact h
    | 8, h => exact h
    | 9, h => exact h
    | 10, h => exact h
    | 11, h => exact h
    | 12, h => exact h
    | 13, h => exact h
    | 14, h => exact h
    | 15, h => exact h
    | 16, h => exact h
    | 17, h => exact h
    | 18, h => exact h
    | 19, h => exact h
    | 20, h => exact h
    | 21, h => exact h
    | 22, h => exact h
    | 23, h => exact h
    | 24, h => exact h
    | 25, h => obtain ⟨q, h1, h2, h3⟩ := h; exact ⟨q, h1, h2, h3.grew hg (by simp)⟩
    | 26, h => obtain ⟨q, h1, h2, h3⟩ := h; exact ⟨q, h1, h2, h3.grew hg (by simp)⟩
    | i + 27, h => exact trivial
  case step =>
    intro f W A hA hg i o ho hu K hK
    match i, ho, hu, hK with
    | 0, ho, hu, hK =>
      cases ho
      have e4 : A.eval (.tmp 4) = .pointer (some ⟨N, 0, none⟩) := ev_out hA 4 rfl
      exact ph_load rfl 52 _ rfl Try.underlying52 rfl N 0 [.string k, .string v, .int .i64 n] (by kernel_rfl) e4 (fun j u hv => by rw [Nat.zero_add, (HN2.out.grew hg (by simp)).cell]; simpa using hv) (hK _ _ (gb_rr W _) rfl)
    | 1, ho, hu, hK =>
      cases ho
      have e0 : A.eval (.tmp 0) = .pointer pl := ev_out hA 0 rfl
      exact ph_move _ rfl rfl (.pointer pl) e0 (hK _ _ (gb_rr W _) rfl)
    | 2, ho, hu, hK =>
      cases ho
      have e2 : A.eval (.tmp 2) = .pointer pr := ev_out hA 2 rfl
      exact ph_move _ rfl rfl (.pointer pr) e2 (hK _ _ (gb_rr W _) rfl)
    | 3, ho, hu, hK =>
      cases ho
      have e0 : A.eval (.tmp 0) = .pointer pl := ev_out hA 0 rfl
      exact ph_move _ rfl rfl (.pointer pl) e0 (hK _ _ (gb_rr W _) rfl)
    | 4, ho, hu, hK =>
      cases ho
      have e10 : A.eval (.tmp 10) = .pointer pl := (ev_in hA 10 3 rfl rfl rfl).trans (show f 3 = .pointer pl from hu 3 (by decide))
      refine ph_fn 44 _ _ rfl rfl #[.pointer pl] (by simp [e10]) (by kernel_rfl) ?_
      refine (Calls.mono (HHl.out W hg) ?_)
      rintro e W' ⟨rfl, rfl⟩
      exact ⟨_, rfl, hK _ _ (gb_rr _ _) rfl⟩
    | 5, ho, hu, hK =>
      cases ho
      have e2 : A.eval (.tmp 2) = .pointer pr := ev_out hA 2 rfl
      exact ph_move _ rfl rfl (.pointer pr) e2 (hK _ _ (gb_rr W _) rfl)
    | 6, ho, hu, hK =>
      cases ho
      have e12 : A.eval (.tmp 12) = .pointer pr := (ev_in hA 12 5 rfl rfl rfl).trans (show f 5 = .pointer pr from hu 5 (by decide))
      refine ph_fn 44 _ _ rfl rfl #[.pointer pr] (by simp [e12]) (by kernel_rfl) ?_
      refine (Calls.mono (HHr.out W hg) ?_)
      rintro e W' ⟨rfl, rfl⟩
      exact ⟨_, rfl, hK _ _ (gb_rr _ _) rfl⟩
    | 7, ho, hu, hK =>
      cases ho
      have e11 : A.eval (.tmp 11) = .int .i64 (hl : Nat) := (ev_in hA 11 4 rfl rfl rfl).trans (show f 4 = .int .i64 (hl : Nat) from hu 4 (by decide))
      have e13 : A.eval (.tmp 13) = .int .i64 (hr : Nat) := (ev_in hA 13 6 rfl rfl rfl).trans (show f 6 = .int .i64 (hr : Nat) from hu 6 (by decide))
      have eC : ∀ c, A.eval (.const c) = c := fun _ => rfl; have eF : ∀ g, A.eval (.func g) = .func (.func g) #[] #[] := fun _ => rfl; generalize hρ : A.eval = ρ at *
      clear hA hu
      refine ph_sem hρ rfl (r := .ok (.value (.int .i64 (M : Nat))) W) ?_ (hK _ _ (gb_rr W _) rfl)
      go_simp
    | 8, ho, hu, hK =>
      cases ho
      have e14 : A.eval (.tmp 14) = .int .i64 (M : Nat) := (ev_in hA 14 7 rfl rfl rfl).trans (show f 7 = .int .i64 (M : Nat) from hu 7 (by decide))
      have eC : ∀ c, A.eval (.const c) = c := fun _ => rfl; have eF : ∀ g, A.eval (.func g) = .func (.func g) #[] #[] := fun _ => rfl; generalize hρ : A.eval = ρ at *
      clear hA hu
      refine ph_sem hρ rfl (r := .ok (.value (.int .i64 (M + 1 : Nat))) W) ?_ (hK _ _ (gb_rr W _) rfl)
      go_simp
      exact wr64 _ ⟨by omega, by omega⟩
    | 9, ho, hu, hK =>
      cases ho
      have e0 : A.eval (.tmp 0) = .pointer pl := ev_out hA 0 rfl
      exact ph_move _ rfl rfl (.pointer pl) e0 (hK _ _ (gb_rr W _) rfl)
    | 10, ho, hu, hK =>
      cases ho
      have e16 : A.eval (.tmp 16) = .pointer pl := (ev_in hA 16 9 rfl rfl rfl).trans (show f 9 = .pointer pl from hu 9 (by decide))
      refine ph_fn 21 _ _ rfl rfl #[.pointer pl] (by simp [e16]) (by kernel_rfl) ?_
      refine (Calls.mono (HCl.out W hg) ?_)
      rintro e W' ⟨rfl, rfl⟩
      exact ⟨_, rfl, hK _ _ (gb_rr _ _) rfl⟩
    | 11, ho, hu, hK =>
      cases ho
      have e17 : A.eval (.tmp 17) = .int .i64 (L : Nat) := (ev_in hA 17 10 rfl rfl rfl).trans (show f 10 = .int .i64 (L : Nat) from hu 10 (by decide))
      have eC : ∀ c, A.eval (.const c) = c := fun _ => rfl; have eF : ∀ g, A.eval (.func g) = .func (.func g) #[] #[] := fun _ => rfl; generalize hρ : A.eval = ρ at *
      clear hA hu
      refine ph_sem hρ rfl (r := .ok (.value (.int .i64 (L + 1 : Nat))) W) ?_ (hK _ _ (gb_rr W _) rfl)
      go_simp
      exact wr64 _ ⟨by omega, by omega⟩
    | 12, ho, hu, hK =>
      cases ho
      have e2 : A.eval (.tmp 2) = .pointer pr := ev_out hA 2 rfl
      exact ph_move _ rfl rfl (.pointer pr) e2 (hK _ _ (gb_rr W _) rfl)
    | 13, ho, hu, hK =>
      cases ho
      have e19 : A.eval (.tmp 19) = .pointer pr := (ev_in hA 19 12 rfl rfl rfl).trans (show f 12 = .pointer pr from hu 12 (by decide))
      refine ph_fn 21 _ _ rfl rfl #[.pointer pr] (by simp [e19]) (by kernel_rfl) ?_
      refine (Calls.mono (HCr.out W hg) ?_)
      rintro e W' ⟨rfl, rfl⟩
      exact ⟨_, rfl, hK _ _ (gb_rr _ _) rfl⟩
    | 14, ho, hu, hK =>
      cases ho
      have e18 : A.eval (.tmp 18) = .int .i64 (L + 1 : Nat) := (ev_in hA 18 11 rfl rfl rfl).trans (show f 11 = .int .i64 (L + 1 : Nat) from hu 11 (by decide))
      have e20 : A.eval (.tmp 20) = .int .i64 (R : Nat) := (ev_in hA 20 13 rfl rfl rfl).trans (show f 13 = .int .i64 (R : Nat) from hu 13 (by decide))
      have eC : ∀ c, A.eval (.const c) = c := fun _ => rfl; have eF : ∀ g, A.eval (.func g) = .func (.func g) #[] #[] := fun _ => rfl; generalize hρ : A.eval = ρ at *
      clear hA hu
      refine ph_sem hρ rfl (r := .ok (.value (.int .i64 (L + 1 + R : Nat))) W) ?_ (hK _ _ (gb_rr W _) rfl)
      go_simp
      exact wr64 _ ⟨by omega, by omega⟩
    | 15, ho, hu, hK =>
      cases ho
      have e0 : A.eval (.tmp 0) = .pointer pl := ev_out hA 0 rfl
      exact ph_move _ rfl rfl (.pointer pl) e0 (hK _ _ (gb_rr W _) rfl)
    | 16, ho, hu, hK =>
      cases ho
      have e22 : A.eval (.tmp 22) = .pointer pl := (ev_in hA 22 15 rfl rfl rfl).trans (show f 15 = .pointer pl from hu 15 (by decide))
      refine ph_fn 25 _ _ rfl rfl #[.pointer pl] (by simp [e22]) (by kernel_rfl) ?_
      refine (Calls.mono (HSl.out W hg) ?_)
      rintro e W' ⟨rfl, rfl⟩
      exact ⟨_, rfl, hK _ _ (gb_rr _ _) rfl⟩
    | 17, ho, hu, hK =>
      cases ho
      have e4 : A.eval (.tmp 4) = .pointer (some ⟨N, 0, none⟩) := ev_out hA 4 rfl
      exact ph_load rfl 52 _ rfl Try.underlying52 rfl N 0 [.string k, .string v, .int .i64 n] (by kernel_rfl) e4 (fun j u hv => by rw [Nat.zero_add, (HN2.out.grew hg (by simp)).cell]; simpa using hv) (hK _ _ (gb_rr W _) rfl)
    | 18, ho, hu, hK =>
      cases ho
      have e24 : A.eval (.tmp 24) = .agg #[.string k, .string v, .int .i64 n] := (ev_in hA 24 17 rfl rfl rfl).trans (show f 17 = .agg #[.string k, .string v, .int .i64 n] from hu 17 (by decide))
      have eC : ∀ c, A.eval (.const c) = c := fun _ => rfl; have eF : ∀ g, A.eval (.func g) = .func (.func g) #[] #[] := fun _ => rfl; generalize hρ : A.eval = ρ at *
      clear hA hu
      refine ph_sem hρ rfl (r := .ok (.value (.iface 52 (.agg #[.string k, .string v, .int .i64 n]))) W) ?_ (hK _ _ (gb_rr W _) rfl)
      go_simp
    | 19, ho, hu, hK =>
      cases ho
      have e25 : A.eval (.tmp 25) = .iface 52 (.agg #[.string k, .string v, .int .i64 n]) := (ev_in hA 25 18 rfl rfl rfl).trans (show f 18 = .iface 52 (.agg #[.string k, .string v, .int .i64 n]) from hu 18 (by decide))
      refine ph_inv _ _ _ rfl rfl _ e25 75 #[.agg #[.string k, .string v, .int .i64 n]] (by kernel_rfl) ?_
      refine (Calls.mono (HRs.out W) ?_)
      rintro e W' ⟨rfl, hq⟩
      exact ⟨_, rfl, hK _ _ hq rfl⟩
    | 20, ho, hu, hK =>
      cases ho
      have e23 : A.eval (.tmp 23) = .int .i64 (zl : Nat) := (ev_in hA 23 16 rfl rfl rfl).trans (show f 16 = .int .i64 (zl : Nat) from hu 16 (by decide))
      have e26 : A.eval (.tmp 26) = .int .i64 (zx : Nat) := (ev_in hA 26 19 rfl rfl rfl).trans (show f 19 = .int .i64 (zx : Nat) from hu 19 (by decide))
      have eC : ∀ c, A.eval (.const c) = c := fun _ => rfl; have eF : ∀ g, A.eval (.func g) = .func (.func g) #[] #[] := fun _ => rfl; generalize hρ : A.eval = ρ at *
      clear hA hu
      refine ph_sem hρ rfl (r := .ok (.value (.int .i64 (zl + zx : Nat))) W) ?_ (hK _ _ (gb_rr W _) rfl)
      go_simp
      exact wr64 _ ⟨by omega, by omega⟩
    | 21, ho, hu, hK =>
      cases ho
      have e2 : A.eval (.tmp 2) = .pointer pr := ev_out hA 2 rfl
      exact ph_move _ rfl rfl (.pointer pr) e2 (hK _ _ (gb_rr W _) rfl)
    | 22, ho, hu, hK =>
      cases ho
      have e28 : A.eval (.tmp 28) = .pointer pr := (ev_in hA 28 21 rfl rfl rfl).trans (show f 21 = .pointer pr from hu 21 (by decide))
      refine ph_fn 25 _ _ rfl rfl #[.pointer pr] (by simp [e28]) (by kernel_rfl) ?_
      refine (Calls.mono (HSr.out W hg) ?_)
      rintro e W' ⟨rfl, rfl⟩
      exact ⟨_, rfl, hK _ _ (gb_rr _ _) rfl⟩
    | 23, ho, hu, hK =>
      cases ho
      have e27 : A.eval (.tmp 27) = .int .i64 (zl + zx : Nat) := (ev_in hA 27 20 rfl rfl rfl).trans (show f 20 = .int .i64 (zl + zx : Nat) from hu 20 (by decide))
      have e29 : A.eval (.tmp 29) = .int .i64 (zr : Nat) := (ev_in hA 29 22 rfl rfl rfl).trans (show f 22 = .int .i64 (zr : Nat) from hu 22 (by decide))
      have eC : ∀ c, A.eval (.const c) = c := fun _ => rfl; have eF : ∀ g, A.eval (.func g) = .func (.func g) #[] #[] := fun _ => rfl; generalize hρ : A.eval = ρ at *
      clear hA hu
      refine ph_sem hρ rfl (r := .ok (.value (.int .i64 (zl + zx + zr : Nat))) W) ?_ (hK _ _ (gb_rr W _) rfl)
      go_simp
      exact wr64 _ ⟨by omega, by omega⟩
    | 24, ho, hu, hK =>
      cases ho
      have e7 : A.eval (.tmp 7) = .agg #[.string k, .string v, .int .i64 n] := (ev_in hA 7 0 rfl rfl rfl).trans (show f 0 = .agg #[.string k, .string v, .int .i64 n] from hu 0 (by decide))
      have e8 : A.eval (.tmp 8) = .pointer pl := (ev_in hA 8 1 rfl rfl rfl).trans (show f 1 = .pointer pl from hu 1 (by decide))
      have e9 : A.eval (.tmp 9) = .pointer pr := (ev_in hA 9 2 rfl rfl rfl).trans (show f 2 = .pointer pr from hu 2 (by decide))
      have e15 : A.eval (.tmp 15) = .int .i64 (M + 1 : Nat) := (ev_in hA 15 8 rfl rfl rfl).trans (show f 8 = .int .i64 (M + 1 : Nat) from hu 8 (by decide))
      have e21 : A.eval (.tmp 21) = .int .i64 (L + 1 + R : Nat) := (ev_in hA 21 14 rfl rfl rfl).trans (show f 14 = .int .i64 (L + 1 + R : Nat) from hu 14 (by decide))
      have e30 : A.eval (.tmp 30) = .int .i64 (zl + zx + zr : Nat) := (ev_in hA 30 23 rfl rfl rfl).trans (show f 23 = .int .i64 (zl + zx + zr : Nat) from hu 23 (by decide))
      have eC : ∀ c, A.eval (.const c) = c := fun _ => rfl; have eF : ∀ g, A.eval (.func g) = .func (.func g) #[] #[] := fun _ => rfl; generalize hρ : A.eval = ρ at *
      clear hA hu
      refine ph_sem hρ rfl (r := .ok (.value (.agg #[.string k, .string v, .int .i64 n, .pointer pl, .pointer pr, .int .i64 (M + 1 : Nat), .int .i64 (L + 1 + R : Nat), .int .i64 (zl + zx + zr : Nat)])) W) ?_ (hK _ _ (gb_rr W _) rfl)
      go_simp
    | 25, ho, hu, hK =>
      cases ho
      have e31 : A.eval (.tmp 31) = .agg #[.string k, .string v, .int .i64 n, .pointer pl, .pointer pr, .int .i64 (M + 1 : Nat), .int .i64 (L + 1 + R : Nat), .int .i64 (zl + zx + zr : Nat)] := (ev_in hA 31 24 rfl rfl rfl).trans (show f 24 = .agg #[.string k, .string v, .int .i64 n, .pointer pl, .pointer pr, .int .i64 (M + 1 : Nat), .int .i64 (L + 1 + R : Nat), .int .i64 (zl + zx + zr : Nat)] from hu 24 (by decide))
      have eC : ∀ c, A.eval (.const c) = c := fun _ => rfl; have eF : ∀ g, A.eval (.func g) = .func (.func g) #[] #[] := fun _ => rfl; generalize hρ : A.eval = ρ at *
      clear hA hu
      refine ph_sem hρ rfl (r := .ok (.value (.pointer (some ⟨W.heap.size, 0, none⟩))) (W.alloc (.cells #[.string k, .string v, .int .i64 n, .pointer pl, .pointer pr, .int .i64 (M + 1 : Nat), .int .i64 (L + 1 + R : Nat), .int .i64 (zl + zx + zr : Nat)] 62))) ?_ (hK _ _ (gb_alloc _ _) ⟨_, rfl, Nat.le_trans HN.out.size hg.size, heap_new _ _⟩)
      go_simp
    | 26, ho, hu, hK =>
      cases ho
      obtain ⟨q25, hv25, hq25, hb25⟩ := hu 25 (by decide)
      have e32 : A.eval (.tmp 32) = .pointer (some ⟨q25, 0, none⟩) := (ev_in hA 32 25 rfl rfl rfl).trans hv25
      have eC : ∀ c, A.eval (.const c) = c := fun _ => rfl; have eF : ∀ g, A.eval (.func g) = .func (.func g) #[] #[] := fun _ => rfl; generalize hρ : A.eval = ρ at *
      clear hA
      refine ph_sem hρ rfl (r := .ok (.value (.pointer (some ⟨q25, 0, none⟩))) W) ?_ (hK _ _ (gb_rr W _) ⟨q25, rfl, hq25, hb25⟩)
      go_simp
    | i + 27, ho, hu, hK => simp at ho
  case fin =>
    intro f W A hA hg hu
    obtain ⟨q, h1, h2, h3⟩ := hu 26 (by decide)
    refine (by assumption : ∀ (a : Act) (w : World), Code.wp Try.prog Code.ret _ a w → _) A W ?_
    refine wp_ret ?_
    refine ret_ph (fn := Try.f33) hA 6 Try.results33 rfl ((ev_in hA 6 26 rfl rfl rfl).trans h1) ?_
    exact ⟨_, rfl, HF.out W q h2 h3 (gb_trans HN.out hg), gb_trans HN.out hg⟩
theorem over_t (o : Nat → Prop) (x : Rw) (pl pr : Option Addr) (hl hr : Nat) (l r : List Rw) (w : World) (ob : ∀ b, w.heap.size ≤ b → o b) (h1 : Tr o w pl hl l) (h2 : Tr o w pr hr r) (hs : Sm (l ++ x :: r)) : Calls Try.prog 33 #[.pointer pl, iv x, .pointer pr] w (TR o w (l ++ x :: r)) := by
  unfold Sm at hs
  rw [szs_mid] at hs
  simp only [List.length_append, List.length_cons] at hs
  refine (over_c o x pl pr hl hr l r w ob h1 h2 (by omega) (by omega)).mono ?_
  rintro e w' ⟨p, rfl, ht, hg⟩
  exact ⟨some p, _, rfl, ht, hg⟩
end Go.Proofs.Ytdmchcdkfbijlab
