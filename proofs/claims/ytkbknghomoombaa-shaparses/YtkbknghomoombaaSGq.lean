/-
  What the document's Parse answers, called with whatever text: what the plain function pans gives. No condition but that the text is one that a machine has.
-/
import Derived.Test.YtkbknghomoombaaSPa
import Derived.Test.YtkbknghomoombaaSGp
import Derived.BigQuiet
namespace Go.Proofs.Ytkbknghomoombaa
set_option linter.unusedVariables false
open Go.RowKit

/-- The value that the search has found among the first j digits. -/
def vk (c : Int) (j : Nat) : Int := if 0 ≤ udx c ∧ udx c < (j : Int) then udx c else -1
theorem vk_zero (c : Int) : vk c 0 = -1 := by unfold vk; rw [if_neg (by omega)]
theorem vk_end (c : Int) : vk c 16 = udx c := by have := udx_bd c; unfold vk; split <;> omega
theorem hx_udx (c : Int) (j : Nat) (hj : j < 16) : hx (j : Int) = c ↔ udx c = (j : Int) := by
  constructor
  · rintro rfl; exact udx_hx _ (by omega)
  · intro h
    unfold udx at h
    unfold hx
    split at h
    · split <;> omega
    · split at h
      · split <;> omega
      · omega
theorem vk_yes (c : Int) (j : Nat) (hj : j < 16) (h : hx (j : Int) = c) : vk c (j + 1) = (j : Int) := by
  have := (hx_udx c j hj).1 h
  unfold vk; rw [this, if_pos (by omega)]
theorem vk_no (c : Int) (j : Nat) (hj : j < 16) (h : ¬ hx (j : Int) = c) : vk c (j + 1) = vk c j := by
  have : ¬ udx c = (j : Int) := fun e => h ((hx_udx c j hj).2 e)
  unfold vk
  by_cases h1 : 0 ≤ udx c ∧ udx c < (j : Int)
  · rw [if_pos h1, if_pos (by omega)]
  · rw [if_neg h1, if_neg (by omega)]
theorem PaB.drew {T w wr N ds} (h : PaB T w wr N ds) (n : Nat) : PaB T w (wr.drewN n) N ds := ⟨h.1, h.2.1, gb_drewN h.2.2.1 n, h.2.2.2⟩
theorem zA (w : World) : (zeroValue 23).run Try.prog w = .ok (.agg (u8s dz32)) w := by
  have h : (Try.prog.info? 23).map (fun i => (i.zero, i.size)) = some (some (.agg (u8s dz32)), 32) := by kernel_rfl
  exact (zero_of_info h).1 w

set_option maxRecDepth 20000 in
set_option maxHeartbeats 1000000 in
theorem gparse_c (ts : List Int) (hb : Bytes ts) (hm : ts.length ≤ 9223372036854775807) (w : World) : Calls Try.prog 18 #[.string (strOfNums ts)] w fun r w' => r = .returned (.tuple #[.agg (u8s (pans ts).1), .int .i64 (pans ts).2.1, .int .i64 ((pans ts).2.2 : Int)]) ∧ w.grownBy w' none := by
  have HNEW : Hid (PaB 23 w ((w.alloc (.cells (u8s dz32) 23)).alloc (.cells (u8s dz32) 23)) w.heap.size dz32) := pab_new _ w dz32
  have hz := zA
  have HIX : Hid (∀ k, k < ts.length → ∀ K W, Sem.run Try.prog (Instr.index 9 (.string (strOfNums ts)) (.int K (k : Int))) W = .ok (.int .u8 (ts.getD k 0)) W) := fun k h => str_idx ts hb k h
  have HB : Hid (Bytes ts) := hb
  obtain ⟨P, hP⟩ : ∃ P, P = pans ts := ⟨_, rfl⟩
  rw [← hP]
  have HP : Hid (P = pans ts) := hP
  clear hP
  obtain ⟨s, hs⟩ : ∃ s, s = strOfNums ts := ⟨_, rfl⟩
  obtain ⟨L, hL⟩ : ∃ L, L = ts.length := ⟨_, rfl⟩
  have hsz : s.size = L := by rw [hs, hL, str_size]
  rw [← hs] at HIX ⊢
  rw [← hL] at HIX hm
  have HLL : Hid (ts.length = L) := hL.symm
  clear hs hb hL
  obtain ⟨N, hN⟩ : ∃ N, N = w.heap.size := ⟨_, rfl⟩
  obtain ⟨n, hn⟩ : ∃ n, n = min L 64 := ⟨_, rfl⟩
  have HN2 : Hid (n = min L 64) := hn
  have hn1 : n ≤ L := by omega
  have hn2 : n ≤ 64 := by omega
  have hcase : (n = L ∧ (L : Int) < 64) ∨ (L = 64 ∧ n = 64) ∨ (n = 64 ∧ (64 : Int) < L) := by omega
  clear hn
  rcases hcase with ⟨rfl, hcs⟩ | ⟨rfl, rfl⟩ | ⟨rfl, hcs⟩
  · go_enter Try.func18, Try.ntmps18
    go_wp2
    generalize hW1 : World.alloc (World.alloc w _) _ = W1
    have H0 : Hid (PaB 23 w W1 N (pd ts 0)) := by rw [← hW1, hN]; exact HNEW
    rw [← hN]
    clear hW1 HNEW
    have HNN : Hid (N = w.heap.size) := hN
    clear hN
    go_loopw [6] (fun i wr => ∃ k : Nat, k ≤ n ∧ i = .int .i64 k ∧ Hid (PaB 23 w wr N (pd ts k)) ∧ Hid (∀ j, j < k → 0 ≤ udx (ts.getD j 0))) (fun i _ => n - (intOf i).toNat)
    case atStart => exact ⟨0, Nat.zero_le _, rfl, H0, fun j hj => by omega⟩
    case round =>
      obtain ⟨k, hk, rfl, hr, hg⟩ := hrel
      clear H0
      by_cases hlt : k < n
      · have hidx := HIX.out k (by omega) .i64
        obtain ⟨c, hc⟩ : ∃ c, c = ts.getD k 0 := ⟨_, rfl⟩
        have hcb : 0 ≤ c ∧ c < 256 := by rw [hc]; have := HB.out k (by rw [HLL.out]; omega); simpa using this
        have HC : Hid (c = ts.getD k 0) := hc
        rw [← hc] at hidx
        clear hc
        have hki : (k : Int) < (n : Int) := by omega
        have hkj : (k : Int) < 64 := by omega
        go_wp2
        go_loopw [7, 8] (fun v i wr => ∃ j : Nat, j ≤ 16 ∧ i = .int .i64 j ∧ v = .int .i64 (vk c j) ∧ Hid (PaB 23 w wr N (pd ts k))) (fun _ i _ => 16 - (intOf i).toNat)
        case atStart => exact ⟨0, Nat.zero_le _, rfl, by rw [vk_zero], hr⟩
        case round =>
          obtain ⟨j, hj, rfl, rfl, hr2⟩ := hrel
          clear hr
          by_cases hj2 : j < 16
          · have s1 := sidx (j : Int) (by omega) .i64
            have hji : (j : Int) < 16 := by omega
            by_cases he : hx (j : Int) = c
            · have HV : Hid (vk c (j + 1) = (j : Int)) := vk_yes c j hj2 he
              have he2 : (hx (j : Int) == c) = true := by simp [he]
              go_wp2
              go_quiet (fail)
              have hr3 : Hid (PaB 23 w (wr.drewN nq) N (pd ts k)) := hr2.out.drew nq
              generalize wr.drewN nq = w9 at hr3 ⊢
              go_wp2
              go_roundw
              case rel => exact ⟨j + 1, by omega, by go_num, by rw [HV.out], hr3⟩
              case measure => simp [intOf]; omega
            · have HV : Hid (vk c (j + 1) = vk c j) := vk_no c j hj2 he
              have he2 : (hx (j : Int) == c) = false := by simp [he]
              obtain ⟨V, hV⟩ : ∃ V, V = vk c j := ⟨_, rfl⟩
              rw [← hV] at HV ⊢
              clear hV
              go_wp2
              go_quiet (fail)
              have hr3 : Hid (PaB 23 w (wr.drewN nq) N (pd ts k)) := hr2.out.drew nq
              generalize wr.drewN nq = w9 at hr3 ⊢
              go_wp2
              go_roundw
              case rel => exact ⟨j + 1, by omega, by go_num, by rw [HV.out], hr3⟩
              case measure => simp [intOf]; omega
          · obtain rfl : j = 16 := by omega
            rw [vk_end]
            by_cases hneg : udx c < 0
            · have HPP : Hid (P = (dz32, 50, k)) := by
                show _ = _
                rw [HP.out, pans, HLL.out, ← HN2.out, fbad_some ts n k hlt hg.out (by rw [← HC.out]; exact hneg)]
              go_wp2_with (first
              | (refine wpList_build_run rfl 23 _ rfl (.agg (u8s dz32)) (by kernel_rfl) ?_)
              | (refine wpList_store_bk 23 rfl (.tmp 2) (.tmp 32) rfl info32 N (u8s dz32) (u8s dz32) rfl rfl hr2.out.1 rfl rfl (u8s_one _) ?_; intro w2 h1 h2; have H2 : Hid (Bk 23 w2 N (u8s dz32) ∧ w.grownBy w2 none) := ⟨h1, gb_newer hr2.out.2.2.1 h2 (by have := hr2.out.2.2.2; omega)⟩; clear h1 h2))
              refine bodyPost_ret (results_cell3 Try.results18 _ _ _ ⟨N, 0, none⟩ (.agg (u8s dz32)) _ _ rfl rfl rfl (bk_load (T := 23) Try.underlying23 rfl info32 H2.out.1 rfl)) rfl ?_
              rw [HPP.out]
              exact ⟨rfl, H2.out.2⟩
            · have hub := udx_bd c
              have HUD : Hid (udx c = udx (ts.getD k 0)) := by show _ = _; rw [HC.out]
              obtain ⟨v, hv⟩ : ∃ v, v = udx c := ⟨_, rfl⟩
              rw [← hv] at hub hneg HUD ⊢
              have hv0 : 0 ≤ v := by omega
              have hv1 : v < 16 := hub.2
              obtain ⟨m, hm2⟩ : ∃ m, m = k / 2 := ⟨_, rfl⟩
              have hm3 : m < 32 := by omega
              have q1 : (k : Int).tdiv (2 : Int) = (m : Int) := by rw [Int.tdiv_eq_ediv_of_nonneg (by omega)]; omega
              have q2 : (k : Int) / (2 : Int) = (m : Int) := by omega
              obtain ⟨x, hx1⟩ : ∃ x, x = (pd ts k).getD m 0 := ⟨_, rfl⟩
              have hxb : 0 ≤ x ∧ x < 256 := by rw [hx1]; have := pd_bytes ts k m (by rw [pd_len]; exact hm3); simpa using this
              have kc : wr.cell? ⟨N + 1, m, none⟩ = some (.int .u8 x) := by rw [hr2.out.2.1.cell _, u8s_at _ _ (by rw [pd_len]; exact hm3), hx1]
              have kf : wr.frozen? ⟨N + 1, m, none⟩ = false := frozen_of_row wr (N + 1) _ _ 23 hr2.out.2.1
              obtain ⟨z, hz1⟩ : ∃ z, z = x * 16 % 256 := ⟨_, rfl⟩
              obtain ⟨y, hy1⟩ : ∃ y, y = (z + v) % 256 := ⟨_, rfl⟩
              have e1 : x * (16 : Int) % (256 : Int) = z := hz1.symm
              have e2 : (z + v) % (256 : Int) = y := hy1.symm
              have e3 : v % (256 : Int) = v := by omega
              have HPD : Hid (pd ts (k + 1) = (pd ts k).set m y) := by
                show _ = _
                rw [pd, ← hm2, ← hx1, hy1, hz1, ← HUD.out]
                congr 1; omega
              have HG2 : Hid (∀ j, j < k + 1 → 0 ≤ udx (ts.getD j 0)) := fun j hj => by
                rcases Nat.lt_or_ge j k with h | h
                · exact hg.out j h
                · obtain rfl : j = k := by omega
                  rw [← HUD.out]; exact hv0
              have HYZ : Hid (z + v = y) := by show _ = _; omega
              have hm4 : (m : Int) < 32 := by omega
              clear hv hm2 hx1 hz1 hy1 hub hg HUD hidx
              go_wp2
              go_roundw
              case rel => exact ⟨k + 1, by omega, by go_num, by rw [HPD.out, ← HYZ.out]; exact hr2.out.set m (z + v), HG2⟩
              case measure => simp [intOf]; omega
      · obtain rfl : k = n := by omega
        have HPP : Hid (P = (dz32, 50, k)) := by
          show _ = _
          rw [HP.out, pans, HLL.out, ← HN2.out, fbad_none ts k hg.out]
          show (if _ = 64 then _ else _) = _
          rw [if_neg (by omega)]
        have hi64 : ¬ (64 : Int) < (k : Int) := by omega
        go_wp2_with (first
              | (refine wpList_build_run rfl 23 _ rfl (.agg (u8s dz32)) (by kernel_rfl) ?_)
              | (refine wpList_store_bk 23 rfl (.tmp 2) (.tmp 48) rfl info32 N (u8s dz32) (u8s dz32) rfl rfl hr.out.1 rfl rfl (u8s_one _) ?_; intro w2 h1 h2; have H2 : Hid (Bk 23 w2 N (u8s dz32) ∧ w.grownBy w2 none) := ⟨h1, gb_newer hr.out.2.2.1 h2 (by have := hr.out.2.2.2; omega)⟩; clear h1 h2))
        refine bodyPost_ret (results_cell3 Try.results18 _ _ _ ⟨N, 0, none⟩ (.agg (u8s dz32)) _ _ rfl rfl rfl (bk_load (T := 23) Try.underlying23 rfl info32 H2.out.1 rfl)) rfl ?_
        rw [HPP.out]
        exact ⟨rfl, H2.out.2⟩
  · go_enter Try.func18, Try.ntmps18
    go_wp2
    generalize hW1 : World.alloc (World.alloc w _) _ = W1
    have H0 : Hid (PaB 23 w W1 N (pd ts 0)) := by rw [← hW1, hN]; exact HNEW
    rw [← hN]
    clear hW1 HNEW
    have HNN : Hid (N = w.heap.size) := hN
    clear hN
    go_loopw [6] (fun i wr => ∃ k : Nat, k ≤ 64 ∧ i = .int .i64 k ∧ Hid (PaB 23 w wr N (pd ts k)) ∧ Hid (∀ j, j < k → 0 ≤ udx (ts.getD j 0))) (fun i _ => 64 - (intOf i).toNat)
    case atStart => exact ⟨0, Nat.zero_le _, rfl, H0, fun j hj => by omega⟩
    case round =>
      obtain ⟨k, hk, rfl, hr, hg⟩ := hrel
      clear H0
      by_cases hlt : k < 64
      · have hidx := HIX.out k (by omega) .i64
        obtain ⟨c, hc⟩ : ∃ c, c = ts.getD k 0 := ⟨_, rfl⟩
        have hcb : 0 ≤ c ∧ c < 256 := by rw [hc]; have := HB.out k (by rw [HLL.out]; omega); simpa using this
        have HC : Hid (c = ts.getD k 0) := hc
        rw [← hc] at hidx
        clear hc
        have hki : (k : Int) < 64 := by omega
        have hkj : (k : Int) < 64 := by omega
        go_wp2
        go_loopw [7, 8] (fun v i wr => ∃ j : Nat, j ≤ 16 ∧ i = .int .i64 j ∧ v = .int .i64 (vk c j) ∧ Hid (PaB 23 w wr N (pd ts k))) (fun _ i _ => 16 - (intOf i).toNat)
        case atStart => exact ⟨0, Nat.zero_le _, rfl, by rw [vk_zero], hr⟩
        case round =>
          obtain ⟨j, hj, rfl, rfl, hr2⟩ := hrel
          clear hr
          by_cases hj2 : j < 16
          · have s1 := sidx (j : Int) (by omega) .i64
            have hji : (j : Int) < 16 := by omega
            by_cases he : hx (j : Int) = c
            · have HV : Hid (vk c (j + 1) = (j : Int)) := vk_yes c j hj2 he
              have he2 : (hx (j : Int) == c) = true := by simp [he]
              go_wp2
              go_quiet (fail)
              have hr3 : Hid (PaB 23 w (wr.drewN nq) N (pd ts k)) := hr2.out.drew nq
              generalize wr.drewN nq = w9 at hr3 ⊢
              go_wp2
              go_roundw
              case rel => exact ⟨j + 1, by omega, by go_num, by rw [HV.out], hr3⟩
              case measure => simp [intOf]; omega
            · have HV : Hid (vk c (j + 1) = vk c j) := vk_no c j hj2 he
              have he2 : (hx (j : Int) == c) = false := by simp [he]
              obtain ⟨V, hV⟩ : ∃ V, V = vk c j := ⟨_, rfl⟩
              rw [← hV] at HV ⊢
              clear hV
              go_wp2
              go_quiet (fail)
              have hr3 : Hid (PaB 23 w (wr.drewN nq) N (pd ts k)) := hr2.out.drew nq
              generalize wr.drewN nq = w9 at hr3 ⊢
              go_wp2
              go_roundw
              case rel => exact ⟨j + 1, by omega, by go_num, by rw [HV.out], hr3⟩
              case measure => simp [intOf]; omega
          · obtain rfl : j = 16 := by omega
            rw [vk_end]
            by_cases hneg : udx c < 0
            · have HPP : Hid (P = (dz32, 50, k)) := by
                show _ = _
                rw [HP.out, pans, HLL.out, ← HN2.out, fbad_some ts 64 k hlt hg.out (by rw [← HC.out]; exact hneg)]
              go_wp2_with (first
              | (refine wpList_build_run rfl 23 _ rfl (.agg (u8s dz32)) (by kernel_rfl) ?_)
              | (refine wpList_store_bk 23 rfl (.tmp 2) (.tmp 32) rfl info32 N (u8s dz32) (u8s dz32) rfl rfl hr2.out.1 rfl rfl (u8s_one _) ?_; intro w2 h1 h2; have H2 : Hid (Bk 23 w2 N (u8s dz32) ∧ w.grownBy w2 none) := ⟨h1, gb_newer hr2.out.2.2.1 h2 (by have := hr2.out.2.2.2; omega)⟩; clear h1 h2))
              refine bodyPost_ret (results_cell3 Try.results18 _ _ _ ⟨N, 0, none⟩ (.agg (u8s dz32)) _ _ rfl rfl rfl (bk_load (T := 23) Try.underlying23 rfl info32 H2.out.1 rfl)) rfl ?_
              rw [HPP.out]
              exact ⟨rfl, H2.out.2⟩
            · have hub := udx_bd c
              have HUD : Hid (udx c = udx (ts.getD k 0)) := by show _ = _; rw [HC.out]
              obtain ⟨v, hv⟩ : ∃ v, v = udx c := ⟨_, rfl⟩
              rw [← hv] at hub hneg HUD ⊢
              have hv0 : 0 ≤ v := by omega
              have hv1 : v < 16 := hub.2
              obtain ⟨m, hm2⟩ : ∃ m, m = k / 2 := ⟨_, rfl⟩
              have hm3 : m < 32 := by omega
              have q1 : (k : Int).tdiv (2 : Int) = (m : Int) := by rw [Int.tdiv_eq_ediv_of_nonneg (by omega)]; omega
              have q2 : (k : Int) / (2 : Int) = (m : Int) := by omega
              obtain ⟨x, hx1⟩ : ∃ x, x = (pd ts k).getD m 0 := ⟨_, rfl⟩
              have hxb : 0 ≤ x ∧ x < 256 := by rw [hx1]; have := pd_bytes ts k m (by rw [pd_len]; exact hm3); simpa using this
              have kc : wr.cell? ⟨N + 1, m, none⟩ = some (.int .u8 x) := by rw [hr2.out.2.1.cell _, u8s_at _ _ (by rw [pd_len]; exact hm3), hx1]
              have kf : wr.frozen? ⟨N + 1, m, none⟩ = false := frozen_of_row wr (N + 1) _ _ 23 hr2.out.2.1
              obtain ⟨z, hz1⟩ : ∃ z, z = x * 16 % 256 := ⟨_, rfl⟩
              obtain ⟨y, hy1⟩ : ∃ y, y = (z + v) % 256 := ⟨_, rfl⟩
              have e1 : x * (16 : Int) % (256 : Int) = z := hz1.symm
              have e2 : (z + v) % (256 : Int) = y := hy1.symm
              have e3 : v % (256 : Int) = v := by omega
              have HPD : Hid (pd ts (k + 1) = (pd ts k).set m y) := by
                show _ = _
                rw [pd, ← hm2, ← hx1, hy1, hz1, ← HUD.out]
                congr 1; omega
              have HG2 : Hid (∀ j, j < k + 1 → 0 ≤ udx (ts.getD j 0)) := fun j hj => by
                rcases Nat.lt_or_ge j k with h | h
                · exact hg.out j h
                · obtain rfl : j = k := by omega
                  rw [← HUD.out]; exact hv0
              have HYZ : Hid (z + v = y) := by show _ = _; omega
              have hm4 : (m : Int) < 32 := by omega
              clear hv hm2 hx1 hz1 hy1 hub hg HUD hidx
              go_wp2
              go_roundw
              case rel => exact ⟨k + 1, by omega, by go_num, by rw [HPD.out, ← HYZ.out]; exact hr2.out.set m (z + v), HG2⟩
              case measure => simp [intOf]; omega
      · obtain rfl : k = 64 := by omega
        have HPP : Hid (P = (pd ts 64, 0, 0)) := by
          show _ = _
          rw [HP.out, pans, HLL.out, ← HN2.out, fbad_none ts 64 hg.out]; rfl
        obtain ⟨D, hD⟩ : ∃ D, D = pd ts 64 := ⟨_, rfl⟩
        have HDL : Hid (D.length = 32) := by show _ = _; rw [hD, pd_len]
        rw [← hD] at HPP hr
        clear hD
        go_wp2_with (first
          | (refine wpList_load_bk 23 rfl (.tmp 5) rfl Try.underlying23 rfl info32 (N + 1) (u8s D) rfl hr.out.2.1 (by rw [u8s_size]; exact HDL.out) ?_)
          | (refine wpList_store_bk 23 rfl (.tmp 2) (.tmp 55) rfl info32 N (u8s dz32) (u8s D) rfl rfl hr.out.1 rfl (by rw [u8s_size]; exact HDL.out) (u8s_one _) ?_; intro w2 h1 h2; have H2 : Hid (Bk 23 w2 N (u8s D) ∧ w.grownBy w2 none) := ⟨h1, gb_newer hr.out.2.2.1 h2 (by have := hr.out.2.2.2; omega)⟩; clear h1 h2))
        refine bodyPost_ret (results_cell3 Try.results18 _ _ _ ⟨N, 0, none⟩ (.agg (u8s D)) _ _ rfl rfl rfl (bk_load (T := 23) Try.underlying23 rfl info32 H2.out.1 (by rw [u8s_size]; exact HDL.out))) rfl ?_
        rw [HPP.out]
        exact ⟨rfl, H2.out.2⟩
  · go_enter Try.func18, Try.ntmps18
    go_wp2
    generalize hW1 : World.alloc (World.alloc w _) _ = W1
    have H0 : Hid (PaB 23 w W1 N (pd ts 0)) := by rw [← hW1, hN]; exact HNEW
    rw [← hN]
    clear hW1 HNEW
    have HNN : Hid (N = w.heap.size) := hN
    clear hN
    go_loopw [6] (fun i wr => ∃ k : Nat, k ≤ 64 ∧ i = .int .i64 k ∧ Hid (PaB 23 w wr N (pd ts k)) ∧ Hid (∀ j, j < k → 0 ≤ udx (ts.getD j 0))) (fun i _ => 64 - (intOf i).toNat)
    case atStart => exact ⟨0, Nat.zero_le _, rfl, H0, fun j hj => by omega⟩
    case round =>
      obtain ⟨k, hk, rfl, hr, hg⟩ := hrel
      clear H0
      by_cases hlt : k < 64
      · have hidx := HIX.out k (by omega) .i64
        obtain ⟨c, hc⟩ : ∃ c, c = ts.getD k 0 := ⟨_, rfl⟩
        have hcb : 0 ≤ c ∧ c < 256 := by rw [hc]; have := HB.out k (by rw [HLL.out]; omega); simpa using this
        have HC : Hid (c = ts.getD k 0) := hc
        rw [← hc] at hidx
        clear hc
        have hki : (k : Int) < (L : Int) := by omega
        have hkj : (k : Int) < 64 := by omega
        go_wp2
        go_loopw [7, 8] (fun v i wr => ∃ j : Nat, j ≤ 16 ∧ i = .int .i64 j ∧ v = .int .i64 (vk c j) ∧ Hid (PaB 23 w wr N (pd ts k))) (fun _ i _ => 16 - (intOf i).toNat)
        case atStart => exact ⟨0, Nat.zero_le _, rfl, by rw [vk_zero], hr⟩
        case round =>
          obtain ⟨j, hj, rfl, rfl, hr2⟩ := hrel
          clear hr
          by_cases hj2 : j < 16
          · have s1 := sidx (j : Int) (by omega) .i64
            have hji : (j : Int) < 16 := by omega
            by_cases he : hx (j : Int) = c
            · have HV : Hid (vk c (j + 1) = (j : Int)) := vk_yes c j hj2 he
              have he2 : (hx (j : Int) == c) = true := by simp [he]
              go_wp2
              go_quiet (fail)
              have hr3 : Hid (PaB 23 w (wr.drewN nq) N (pd ts k)) := hr2.out.drew nq
              generalize wr.drewN nq = w9 at hr3 ⊢
              go_wp2
              go_roundw
              case rel => exact ⟨j + 1, by omega, by go_num, by rw [HV.out], hr3⟩
              case measure => simp [intOf]; omega
            · have HV : Hid (vk c (j + 1) = vk c j) := vk_no c j hj2 he
              have he2 : (hx (j : Int) == c) = false := by simp [he]
              obtain ⟨V, hV⟩ : ∃ V, V = vk c j := ⟨_, rfl⟩
              rw [← hV] at HV ⊢
              clear hV
              go_wp2
              go_quiet (fail)
              have hr3 : Hid (PaB 23 w (wr.drewN nq) N (pd ts k)) := hr2.out.drew nq
              generalize wr.drewN nq = w9 at hr3 ⊢
              go_wp2
              go_roundw
              case rel => exact ⟨j + 1, by omega, by go_num, by rw [HV.out], hr3⟩
              case measure => simp [intOf]; omega
          · obtain rfl : j = 16 := by omega
            rw [vk_end]
            by_cases hneg : udx c < 0
            · have HPP : Hid (P = (dz32, 50, k)) := by
                show _ = _
                rw [HP.out, pans, HLL.out, ← HN2.out, fbad_some ts 64 k hlt hg.out (by rw [← HC.out]; exact hneg)]
              go_wp2_with (first
              | (refine wpList_build_run rfl 23 _ rfl (.agg (u8s dz32)) (by kernel_rfl) ?_)
              | (refine wpList_store_bk 23 rfl (.tmp 2) (.tmp 32) rfl info32 N (u8s dz32) (u8s dz32) rfl rfl hr2.out.1 rfl rfl (u8s_one _) ?_; intro w2 h1 h2; have H2 : Hid (Bk 23 w2 N (u8s dz32) ∧ w.grownBy w2 none) := ⟨h1, gb_newer hr2.out.2.2.1 h2 (by have := hr2.out.2.2.2; omega)⟩; clear h1 h2))
              refine bodyPost_ret (results_cell3 Try.results18 _ _ _ ⟨N, 0, none⟩ (.agg (u8s dz32)) _ _ rfl rfl rfl (bk_load (T := 23) Try.underlying23 rfl info32 H2.out.1 rfl)) rfl ?_
              rw [HPP.out]
              exact ⟨rfl, H2.out.2⟩
            · have hub := udx_bd c
              have HUD : Hid (udx c = udx (ts.getD k 0)) := by show _ = _; rw [HC.out]
              obtain ⟨v, hv⟩ : ∃ v, v = udx c := ⟨_, rfl⟩
              rw [← hv] at hub hneg HUD ⊢
              have hv0 : 0 ≤ v := by omega
              have hv1 : v < 16 := hub.2
              obtain ⟨m, hm2⟩ : ∃ m, m = k / 2 := ⟨_, rfl⟩
              have hm3 : m < 32 := by omega
              have q1 : (k : Int).tdiv (2 : Int) = (m : Int) := by rw [Int.tdiv_eq_ediv_of_nonneg (by omega)]; omega
              have q2 : (k : Int) / (2 : Int) = (m : Int) := by omega
              obtain ⟨x, hx1⟩ : ∃ x, x = (pd ts k).getD m 0 := ⟨_, rfl⟩
              have hxb : 0 ≤ x ∧ x < 256 := by rw [hx1]; have := pd_bytes ts k m (by rw [pd_len]; exact hm3); simpa using this
              have kc : wr.cell? ⟨N + 1, m, none⟩ = some (.int .u8 x) := by rw [hr2.out.2.1.cell _, u8s_at _ _ (by rw [pd_len]; exact hm3), hx1]
              have kf : wr.frozen? ⟨N + 1, m, none⟩ = false := frozen_of_row wr (N + 1) _ _ 23 hr2.out.2.1
              obtain ⟨z, hz1⟩ : ∃ z, z = x * 16 % 256 := ⟨_, rfl⟩
              obtain ⟨y, hy1⟩ : ∃ y, y = (z + v) % 256 := ⟨_, rfl⟩
              have e1 : x * (16 : Int) % (256 : Int) = z := hz1.symm
              have e2 : (z + v) % (256 : Int) = y := hy1.symm
              have e3 : v % (256 : Int) = v := by omega
              have HPD : Hid (pd ts (k + 1) = (pd ts k).set m y) := by
                show _ = _
                rw [pd, ← hm2, ← hx1, hy1, hz1, ← HUD.out]
                congr 1; omega
              have HG2 : Hid (∀ j, j < k + 1 → 0 ≤ udx (ts.getD j 0)) := fun j hj => by
                rcases Nat.lt_or_ge j k with h | h
                · exact hg.out j h
                · obtain rfl : j = k := by omega
                  rw [← HUD.out]; exact hv0
              have HYZ : Hid (z + v = y) := by show _ = _; omega
              have hm4 : (m : Int) < 32 := by omega
              clear hv hm2 hx1 hz1 hy1 hub hg HUD hidx
              go_wp2
              go_roundw
              case rel => exact ⟨k + 1, by omega, by go_num, by rw [HPD.out, ← HYZ.out]; exact hr2.out.set m (z + v), HG2⟩
              case measure => simp [intOf]; omega
      · obtain rfl : k = 64 := by omega
        have HPP : Hid (P = (dz32, 50, 64)) := by
          show _ = _
          rw [HP.out, pans, HLL.out, ← HN2.out, fbad_none ts 64 hg.out]
          show (if _ = 64 then _ else _) = _
          rw [if_neg (by omega)]
        have hi64 : ¬ (L : Int) < 64 := by omega
        go_wp2_with (first
              | (refine wpList_build_run rfl 23 _ rfl (.agg (u8s dz32)) (by kernel_rfl) ?_)
              | (refine wpList_store_bk 23 rfl (.tmp 2) (.tmp 54) rfl info32 N (u8s dz32) (u8s dz32) rfl rfl hr.out.1 rfl rfl (u8s_one _) ?_; intro w2 h1 h2; have H2 : Hid (Bk 23 w2 N (u8s dz32) ∧ w.grownBy w2 none) := ⟨h1, gb_newer hr.out.2.2.1 h2 (by have := hr.out.2.2.2; omega)⟩; clear h1 h2))
        refine bodyPost_ret (results_cell3 Try.results18 _ _ _ ⟨N, 0, none⟩ (.agg (u8s dz32)) _ _ rfl rfl rfl (bk_load (T := 23) Try.underlying23 rfl info32 H2.out.1 rfl)) rfl ?_
        rw [HPP.out]
        exact ⟨rfl, H2.out.2⟩
end Go.Proofs.Ytkbknghomoombaa
