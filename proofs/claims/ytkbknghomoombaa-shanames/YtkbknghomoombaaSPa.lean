/-
  What sha's Parse answers, called with whatever text: what the plain function pans gives. No condition but that the text is one that a machine has.
-/
import Derived.Test.YtkbknghomoombaaSPr
import Derived.Laws.Externs
namespace Go.Proofs.Ytkbknghomoombaa
set_option linter.unusedVariables false
open Go.RowKit

/-- A digit's value, or -1. -/
def udx (c : Int) : Int := if 48 ≤ c ∧ c ≤ 57 then c - 48 else if 97 ≤ c ∧ c ≤ 102 then c - 87 else -1
theorem udx_first (c : Int) (h : 0 ≤ c ∧ c < 256) : firstIdx { data := #[48, 49, 50, 51, 52, 53, 54, 55, 56, 57, 97, 98, 99, 100, 101, 102] } c.toNat.toUInt8 = udx c := by
  obtain ⟨n, rfl⟩ := Int.eq_ofNat_of_zero_le h.1
  have : ∀ n : Fin 256, firstIdx { data := #[48, 49, 50, 51, 52, 53, 54, 55, 56, 57, 97, 98, 99, 100, 101, 102] } n.val.toUInt8 = udx (n.val : Int) := by decide +kernel
  exact this ⟨n, by omega⟩
theorem udx_bd (c : Int) : -1 ≤ udx c ∧ udx c < 16 := by unfold udx; split <;> first | omega | (split <;> omega)
theorem udx_hx (v : Int) (h : 0 ≤ v ∧ v < 16) : udx (hx v) = v := by unfold udx hx; split <;> (split <;> first | omega | (split <;> omega))
theorem sli_c (c : Int) (h : 0 ≤ c ∧ c < 256) (w : World) : Calls Try.prog 47 #[.string { data := #[48, 49, 50, 51, 52, 53, 54, 55, 56, 57, 97, 98, 99, 100, 101, 102] }, .int .u8 c] w fun e w' => e = .returned (.int .i64 (udx c)) ∧ w' = w := by
  have hu := udx_first c h
  go_enter Try.func47, Try.ntmps47
  go_wp2
  rw [run_callFunc_extern Try.func55 (by kernel_rfl) (by kernel_rfl) (by kernel_rfl) (e := Extern.BytealgIndexByte.indexByte) (by kernel_rfl), run_indexByte_string, hu]
  simp only [Result.andThen]
  rw [Oper.upon_value]
  go_wp2
  go_ret
  exact ⟨rfl, rfl⟩
theorem idx_c (c : Int) (h : 0 ≤ c ∧ c < 256) (w : World) : Calls Try.prog 34 #[.string { data := #[48, 49, 50, 51, 52, 53, 54, 55, 56, 57, 97, 98, 99, 100, 101, 102] }, .int .u8 c] w fun e w' => e = .returned (.int .i64 (udx c)) ∧ w' = w := by
  have HC : Hid _ := sli_c c h w
  clear h
  go_enter Try.func34, Try.ntmps34
  go_wp2_with (go_at_call 47; refine (Calls.mono HC.out ?_); rintro e w1 ⟨rfl, rfl⟩)
  go_ret
  exact ⟨rfl, rfl⟩

def dz32 : List Int := List.replicate 32 0
/-- The digest of the first k digits. -/
def pd (ts : List Int) : Nat → List Int
  | 0 => dz32
  | k + 1 => (pd ts k).set (k / 2) (((pd ts k).getD (k / 2) 0 * 16 + udx (ts.getD k 0)) % 256)
theorem pd_len (ts : List Int) (k : Nat) : (pd ts k).length = 32 := by
  induction k with
  | zero => rfl
  | succ k ih => rw [pd, List.length_set, ih]
theorem pd_bytes (ts : List Int) (k : Nat) : Bytes (pd ts k) := by
  induction k with
  | zero => exact bytes_of_mem (fun z hz => by unfold pd dz32 at hz; rw [List.mem_replicate] at hz; omega)
  | succ k ih =>
    refine bytes_of_mem (fun z hz => ?_)
    rw [pd] at hz
    rcases List.mem_or_eq_of_mem_set hz with h | rfl
    · exact ih.mem z h
    · omega
def fbad (ts : List Int) (n : Nat) : Option Nat := (List.range n).find? fun i => decide (udx (ts.getD i 0) < 0)
theorem fbad_some (ts : List Int) (n k : Nat) (hk : k < n) (hg : ∀ j, j < k → 0 ≤ udx (ts.getD j 0)) (hb : udx (ts.getD k 0) < 0) : fbad ts n = some k := by
  unfold fbad
  rw [List.find?_range_eq_some]
  refine ⟨by simpa using hb, by simpa using hk, fun j hj => ?_⟩
  have := hg j hj
  simp; simp at this; omega
theorem fbad_none (ts : List Int) (n : Nat) (hg : ∀ j, j < n → 0 ≤ udx (ts.getD j 0)) : fbad ts n = none := by
  unfold fbad
  rw [List.find?_range_eq_none]
  intro j hj
  have := hg j hj
  simp; simp at this; omega
/-- What a text is parsed to. -/
def pans (ts : List Int) : List Int × Int × Nat := match fbad ts (min ts.length 64) with
  | some i => (dz32, 50, i)
  | none => if ts.length = 64 then (pd ts 64, 0, 0) else (dz32, 50, min ts.length 64)
theorem str_size (ts : List Int) : (strOfNums ts).size = ts.length := by
  have := congrArg List.length (strOfNums_data ts)
  simpa using this
theorem str_idx (ts : List Int) (hb : Bytes ts) (k : Nat) (h : k < ts.length) (K : IntKind) (W : World) : Sem.run Try.prog (Instr.index 9 (.string (strOfNums ts)) (.int K (k : Int))) W = .ok (.int .u8 (ts.getD k 0)) W := by
  rw [run_index_string W 9 _ K k Try.underlying9]
  rw [dif_pos ⟨by omega, by rw [str_size]; omega⟩]
  congr 2
  have hd := strOfNums_data ts
  have hk : (k : Int).toNat < (strOfNums ts).data.toList.length := by rw [hd]; simpa using h
  have e : (strOfNums ts)[(k : Int).toNat]'(by rw [str_size]; omega) = (strOfNums ts).data.toList[(k : Int).toNat]'hk := rfl
  rw [e]
  have h2 := hb k h
  simp only [h, List.getElem?_eq_getElem, Option.getD_some] at h2
  simp only [hd, List.getElem_map, Int.toNat_natCast, UInt8.toNat_ofNat']
  simp only [List.getD_eq_getElem?_getD, h, List.getElem?_eq_getElem, Option.getD_some]
  omega
theorem zD (w : World) : (zeroValue 24).run Try.prog w = .ok (.agg (u8s dz32)) w := by
  have h : (Try.prog.info? 24).map (fun i => (i.zero, i.size)) = some (some (.agg (u8s dz32)), 32) := by kernel_rfl
  exact (zero_of_info h).1 w
/-- Parse's own blocks: what is answered, and the digest so far. -/
def PaB (T : TypeId) (w wr : World) (N : Nat) (ds : List Int) : Prop := Bk T wr N (u8s dz32) ∧ Bk T wr (N + 1) (u8s ds) ∧ w.grownBy wr none ∧ N = w.heap.size
theorem pab_new (T : TypeId) (w : World) (ds : List Int) : PaB T w ((w.alloc (.cells (u8s dz32) T)).alloc (.cells (u8s ds) T)) w.heap.size ds := by
  refine ⟨(Below.heap_alloc _ _ _ (by simp)).trans (heap_new w _), ?_, gb_trans (World.grownBy_alloc _ _ _) (World.grownBy_alloc _ _ _), rfl⟩
  have := heap_new (w.alloc (.cells (u8s dz32) T)) (.cells (u8s ds) T)
  rw [World.size_alloc] at this
  exact this
theorem PaB.set {T w wr N ds} (h : PaB T w wr N ds) (i : Nat) (x : Int) : PaB T w (wr.setCell ⟨N + 1, i, none⟩ (.int .u8 x)) N (ds.set i x) := by
  obtain ⟨h1, h2, h3, h4⟩ := h
  refine ⟨(Below.heap_setCell _ _ _ _ (by show N ≠ N + 1; omega)).trans h1, ?_, gb_newer (N := N + 1) h3 ⟨rfl, rfl, rfl, by simp, fun k _ hk => Below.heap_setCell _ _ _ _ (fun e => hk (by rw [e]))⟩ (by omega), h4⟩
  have := h2.set i (.int .u8 x)
  rw [u8s_set] at this
  exact this

set_option maxRecDepth 20000 in
set_option maxHeartbeats 400000 in
theorem parse_c (ts : List Int) (hb : Bytes ts) (hm : ts.length ≤ 9223372036854775807) (w : World) : Calls Try.prog 16 #[.string (strOfNums ts)] w fun r w' => r = .returned (.tuple #[.agg (u8s (pans ts).1), .int .i64 (pans ts).2.1, .int .i64 ((pans ts).2.2 : Int)]) ∧ w.grownBy w' none := by
  have HNEW : Hid (PaB 24 w ((w.alloc (.cells (u8s dz32) 24)).alloc (.cells (u8s dz32) 24)) w.heap.size dz32) := pab_new _ w dz32
  have hz := zD
  have HIX : Hid (∀ k, k < ts.length → ∀ K W, Sem.run Try.prog (Instr.index 9 (.string (strOfNums ts)) (.int K (k : Int))) W = .ok (.int .u8 (ts.getD k 0)) W) := fun k h => str_idx ts hb k h
  have HB : Hid (Bytes ts) := hb
  obtain ⟨P, hP⟩ : ∃ P, P = pans ts := ⟨_, rfl⟩
  rw [← hP]
  have HP : Hid (P = pans ts) := hP
  clear hP
  obtain ⟨s, hs⟩ : ∃ s, s = strOfNums ts := ⟨_, rfl⟩
  obtain ⟨L, hL⟩ : ∃ L, L = ts.length := ⟨_, rfl⟩
  have hsz : s.size = L := by rw [hs, hL, str_size]
  rw [← hs] at HIX ⊢
  rw [← hL] at HIX hm
  have HLL : Hid (ts.length = L) := hL.symm
  clear hs hb hL
  obtain ⟨N, hN⟩ : ∃ N, N = w.heap.size := ⟨_, rfl⟩
  obtain ⟨n, hn⟩ : ∃ n, n = min L 64 := ⟨_, rfl⟩
  have HN2 : Hid (n = min L 64) := hn
  have hn1 : n ≤ L := by omega
  have hn2 : n ≤ 64 := by omega
  have hcase : (n = L ∧ (L : Int) < 64) ∨ (L = 64 ∧ n = 64) ∨ (n = 64 ∧ (64 : Int) < L) := by omega
  clear hn
  rcases hcase with ⟨rfl, hcs⟩ | ⟨rfl, rfl⟩ | ⟨rfl, hcs⟩
  · go_enter Try.func16, Try.ntmps16
    go_wp2
    generalize hW1 : World.alloc (World.alloc w _) _ = W1
    have H0 : Hid (PaB 24 w W1 N (pd ts 0)) := by rw [← hW1, hN]; exact HNEW
    rw [← hN]
    clear hW1 HNEW
    have HNN : Hid (N = w.heap.size) := hN
    clear hN
    go_loopw [13] (fun i wr => ∃ k : Nat, k ≤ n ∧ i = .int .i64 k ∧ Hid (PaB 24 w wr N (pd ts k)) ∧ Hid (∀ j, j < k → 0 ≤ udx (ts.getD j 0))) (fun i _ => n - (intOf i).toNat)
    case atStart => exact ⟨0, Nat.zero_le _, rfl, H0, fun j hj => by omega⟩
    case round =>
      obtain ⟨k, hk, rfl, hr, hg⟩ := hrel
      clear H0
      by_cases hlt : k < n
      · have hidx := HIX.out k (by omega) .i64
        obtain ⟨c, hc⟩ : ∃ c, c = ts.getD k 0 := ⟨_, rfl⟩
        have hcb : 0 ≤ c ∧ c < 256 := by rw [hc]; have := HB.out k (by rw [HLL.out]; omega); simpa using this
        have HC : Hid (c = ts.getD k 0) := hc
        rw [← hc] at hidx
        clear hc
        have hki : (k : Int) < (n : Int) := by omega
        by_cases hneg : udx c < 0
        · have HPP : Hid (P = (dz32, 50, k)) := by
            show _ = _
            rw [HP.out, pans, HLL.out, ← HN2.out, fbad_some ts n k hlt hg.out (by rw [← HC.out]; exact hneg)]
          go_wp2_with (first
          | (refine wpList_build_run rfl 24 _ rfl (.agg (u8s dz32)) (by kernel_rfl) ?_)
          | (refine wpList_store_bk 24 rfl (.tmp 2) (.tmp 22) rfl infoD N (u8s dz32) (u8s dz32) rfl rfl hr.out.1 rfl rfl (u8s_one _) ?_; intro w2 h1 h2; have H2 : Hid (Bk 24 w2 N (u8s dz32) ∧ w.grownBy w2 none) := ⟨h1, gb_newer hr.out.2.2.1 h2 (by have := hr.out.2.2.2; omega)⟩; clear h1 h2)
          | (go_at_call 34; go_must (refine (idx_c _ hcb _).mono ?_); rintro r w1 ⟨rfl, rfl⟩))
          refine bodyPost_ret (results_cell3 Try.results16 _ _ _ ⟨N, 0, none⟩ (.agg (u8s dz32)) _ _ rfl rfl rfl (bk_load (T := 24) Try.underlying24 rfl infoD H2.out.1 rfl)) rfl ?_
          rw [HPP.out]
          exact ⟨rfl, H2.out.2⟩
        · have hub := udx_bd c
          have HUD : Hid (udx c = udx (ts.getD k 0)) := by show _ = _; rw [HC.out]
          obtain ⟨v, hv⟩ : ∃ v, v = udx c := ⟨_, rfl⟩
          have HIC : Hid (Calls Try.prog 34 #[.string { data := #[48, 49, 50, 51, 52, 53, 54, 55, 56, 57, 97, 98, 99, 100, 101, 102] }, .int .u8 c] wr fun e w' => e = .returned (.int .i64 v) ∧ w' = wr) := by rw [hv]; exact idx_c c hcb wr
          rw [← hv] at hub hneg HUD
          have hv0 : 0 ≤ v := by omega
          have hv1 : v < 16 := hub.2
          obtain ⟨m, hm2⟩ : ∃ m, m = k / 2 := ⟨_, rfl⟩
          have hm3 : m < 32 := by omega
          have q1 : (k : Int).tdiv (2 : Int) = (m : Int) := by rw [Int.tdiv_eq_ediv_of_nonneg (by omega)]; omega
          have q2 : (k : Int) / (2 : Int) = (m : Int) := by omega
          obtain ⟨x, hx1⟩ : ∃ x, x = (pd ts k).getD m 0 := ⟨_, rfl⟩
          have hxb : 0 ≤ x ∧ x < 256 := by rw [hx1]; have := pd_bytes ts k m (by rw [pd_len]; exact hm3); simpa using this
          have kc : wr.cell? ⟨N + 1, m, none⟩ = some (.int .u8 x) := by rw [hr.out.2.1.cell _, u8s_at _ _ (by rw [pd_len]; exact hm3), hx1]
          have kf : wr.frozen? ⟨N + 1, m, none⟩ = false := frozen_of_row wr (N + 1) _ _ 24 hr.out.2.1
          obtain ⟨z, hz1⟩ : ∃ z, z = x * 16 % 256 := ⟨_, rfl⟩
          obtain ⟨y, hy1⟩ : ∃ y, y = (z + v) % 256 := ⟨_, rfl⟩
          have e1 : x * (16 : Int) % (256 : Int) = z := hz1.symm
          have e2 : (z + v) % (256 : Int) = y := hy1.symm
          have e3 : v % (256 : Int) = v := by omega
          have HPD : Hid (pd ts (k + 1) = (pd ts k).set m y) := by
            show _ = _
            rw [pd, ← hm2, ← hx1, hy1, hz1, ← HUD.out]
            congr 1; omega
          have HG2 : Hid (∀ j, j < k + 1 → 0 ≤ udx (ts.getD j 0)) := fun j hj => by
            rcases Nat.lt_or_ge j k with h | h
            · exact hg.out j h
            · obtain rfl : j = k := by omega
              rw [← HUD.out]; exact hv0
          have HYZ : Hid (z + v = y) := by show _ = _; omega
          have hm4 : (m : Int) < 32 := by omega
          clear hv hm2 hx1 hz1 hy1 hub hg HUD
          go_wp2_with (go_at_call 34; go_must (refine (Calls.mono HIC.out ?_)); rintro r w1 ⟨rfl, rfl⟩)
          go_roundw
          case rel => exact ⟨k + 1, by omega, by go_num, by rw [HPD.out, ← HYZ.out]; exact hr.out.set m (z + v), HG2⟩
          case measure => simp [intOf]; omega
      · obtain rfl : k = n := by omega
        have hcb : (0 : Int) ≤ 0 ∧ (0 : Int) < 256 := by omega
        have HPP : Hid (P = (dz32, 50, k)) := by
          show _ = _
          rw [HP.out, pans, HLL.out, ← HN2.out, fbad_none ts k hg.out]
          show (if _ = 64 then _ else _) = _
          rw [if_neg (by omega)]
        have hne : ¬ (k : Int) = 64 := by omega
        go_wp2_with (first
          | (refine wpList_build_run rfl 24 _ rfl (.agg (u8s dz32)) (by kernel_rfl) ?_)
          | (refine wpList_store_bk 24 rfl (.tmp 2) (.tmp 39) rfl infoD N (u8s dz32) (u8s dz32) rfl rfl hr.out.1 rfl rfl (u8s_one _) ?_; intro w2 h1 h2; have H2 : Hid (Bk 24 w2 N (u8s dz32) ∧ w.grownBy w2 none) := ⟨h1, gb_newer hr.out.2.2.1 h2 (by have := hr.out.2.2.2; omega)⟩; clear h1 h2)
          | (go_at_call 34; go_must (refine (idx_c _ hcb _).mono ?_); rintro r w1 ⟨rfl, rfl⟩))
        refine bodyPost_ret (results_cell3 Try.results16 _ _ _ ⟨N, 0, none⟩ (.agg (u8s dz32)) _ _ rfl rfl rfl (bk_load (T := 24) Try.underlying24 rfl infoD H2.out.1 rfl)) rfl ?_
        rw [HPP.out]
        exact ⟨rfl, H2.out.2⟩
  · go_enter Try.func16, Try.ntmps16
    go_wp2
    generalize hW1 : World.alloc (World.alloc w _) _ = W1
    have H0 : Hid (PaB 24 w W1 N (pd ts 0)) := by rw [← hW1, hN]; exact HNEW
    rw [← hN]
    clear hW1 HNEW
    have HNN : Hid (N = w.heap.size) := hN
    clear hN
    go_loopw [13] (fun i wr => ∃ k : Nat, k ≤ 64 ∧ i = .int .i64 k ∧ Hid (PaB 24 w wr N (pd ts k)) ∧ Hid (∀ j, j < k → 0 ≤ udx (ts.getD j 0))) (fun i _ => 64 - (intOf i).toNat)
    case atStart => exact ⟨0, Nat.zero_le _, rfl, H0, fun j hj => by omega⟩
    case round =>
      obtain ⟨k, hk, rfl, hr, hg⟩ := hrel
      clear H0
      by_cases hlt : k < 64
      · have hidx := HIX.out k (by omega) .i64
        obtain ⟨c, hc⟩ : ∃ c, c = ts.getD k 0 := ⟨_, rfl⟩
        have hcb : 0 ≤ c ∧ c < 256 := by rw [hc]; have := HB.out k (by rw [HLL.out]; omega); simpa using this
        have HC : Hid (c = ts.getD k 0) := hc
        rw [← hc] at hidx
        clear hc
        have hki : (k : Int) < 64 := by omega
        by_cases hneg : udx c < 0
        · have HPP : Hid (P = (dz32, 50, k)) := by
            show _ = _
            rw [HP.out, pans, HLL.out, ← HN2.out, fbad_some ts 64 k hlt hg.out (by rw [← HC.out]; exact hneg)]
          go_wp2_with (first
          | (refine wpList_build_run rfl 24 _ rfl (.agg (u8s dz32)) (by kernel_rfl) ?_)
          | (refine wpList_store_bk 24 rfl (.tmp 2) (.tmp 22) rfl infoD N (u8s dz32) (u8s dz32) rfl rfl hr.out.1 rfl rfl (u8s_one _) ?_; intro w2 h1 h2; have H2 : Hid (Bk 24 w2 N (u8s dz32) ∧ w.grownBy w2 none) := ⟨h1, gb_newer hr.out.2.2.1 h2 (by have := hr.out.2.2.2; omega)⟩; clear h1 h2)
          | (go_at_call 34; go_must (refine (idx_c _ hcb _).mono ?_); rintro r w1 ⟨rfl, rfl⟩))
          refine bodyPost_ret (results_cell3 Try.results16 _ _ _ ⟨N, 0, none⟩ (.agg (u8s dz32)) _ _ rfl rfl rfl (bk_load (T := 24) Try.underlying24 rfl infoD H2.out.1 rfl)) rfl ?_
          rw [HPP.out]
          exact ⟨rfl, H2.out.2⟩
        · have hub := udx_bd c
          have HUD : Hid (udx c = udx (ts.getD k 0)) := by show _ = _; rw [HC.out]
          obtain ⟨v, hv⟩ : ∃ v, v = udx c := ⟨_, rfl⟩
          have HIC : Hid (Calls Try.prog 34 #[.string { data := #[48, 49, 50, 51, 52, 53, 54, 55, 56, 57, 97, 98, 99, 100, 101, 102] }, .int .u8 c] wr fun e w' => e = .returned (.int .i64 v) ∧ w' = wr) := by rw [hv]; exact idx_c c hcb wr
          rw [← hv] at hub hneg HUD
          have hv0 : 0 ≤ v := by omega
          have hv1 : v < 16 := hub.2
          obtain ⟨m, hm2⟩ : ∃ m, m = k / 2 := ⟨_, rfl⟩
          have hm3 : m < 32 := by omega
          have q1 : (k : Int).tdiv (2 : Int) = (m : Int) := by rw [Int.tdiv_eq_ediv_of_nonneg (by omega)]; omega
          have q2 : (k : Int) / (2 : Int) = (m : Int) := by omega
          obtain ⟨x, hx1⟩ : ∃ x, x = (pd ts k).getD m 0 := ⟨_, rfl⟩
          have hxb : 0 ≤ x ∧ x < 256 := by rw [hx1]; have := pd_bytes ts k m (by rw [pd_len]; exact hm3); simpa using this
          have kc : wr.cell? ⟨N + 1, m, none⟩ = some (.int .u8 x) := by rw [hr.out.2.1.cell _, u8s_at _ _ (by rw [pd_len]; exact hm3), hx1]
          have kf : wr.frozen? ⟨N + 1, m, none⟩ = false := frozen_of_row wr (N + 1) _ _ 24 hr.out.2.1
          obtain ⟨z, hz1⟩ : ∃ z, z = x * 16 % 256 := ⟨_, rfl⟩
          obtain ⟨y, hy1⟩ : ∃ y, y = (z + v) % 256 := ⟨_, rfl⟩
          have e1 : x * (16 : Int) % (256 : Int) = z := hz1.symm
          have e2 : (z + v) % (256 : Int) = y := hy1.symm
          have e3 : v % (256 : Int) = v := by omega
          have HPD : Hid (pd ts (k + 1) = (pd ts k).set m y) := by
            show _ = _
            rw [pd, ← hm2, ← hx1, hy1, hz1, ← HUD.out]
            congr 1; omega
          have HG2 : Hid (∀ j, j < k + 1 → 0 ≤ udx (ts.getD j 0)) := fun j hj => by
            rcases Nat.lt_or_ge j k with h | h
            · exact hg.out j h
            · obtain rfl : j = k := by omega
              rw [← HUD.out]; exact hv0
          have HYZ : Hid (z + v = y) := by show _ = _; omega
          have hm4 : (m : Int) < 32 := by omega
          clear hv hm2 hx1 hz1 hy1 hub hg HUD
          go_wp2_with (go_at_call 34; go_must (refine (Calls.mono HIC.out ?_)); rintro r w1 ⟨rfl, rfl⟩)
          go_roundw
          case rel => exact ⟨k + 1, by omega, by go_num, by rw [HPD.out, ← HYZ.out]; exact hr.out.set m (z + v), HG2⟩
          case measure => simp [intOf]; omega
      · obtain rfl : k = 64 := by omega
        have hcb : (0 : Int) ≤ 0 ∧ (0 : Int) < 256 := by omega
        have HPP : Hid (P = (pd ts 64, 0, 0)) := by
          show _ = _
          rw [HP.out, pans, HLL.out, ← HN2.out, fbad_none ts 64 hg.out]; rfl
        obtain ⟨D, hD⟩ : ∃ D, D = pd ts 64 := ⟨_, rfl⟩
        have HDL : Hid (D.length = 32) := by show _ = _; rw [hD, pd_len]
        rw [← hD] at HPP hr
        clear hD
        go_wp2_with (first
          | (refine wpList_load_bk 24 rfl (.tmp 5) rfl Try.underlying24 rfl infoD (N + 1) (u8s D) rfl hr.out.2.1 (by rw [u8s_size]; exact HDL.out) ?_)
          | (refine wpList_store_bk 24 rfl (.tmp 2) (.tmp 41) rfl infoD N (u8s dz32) (u8s D) rfl rfl hr.out.1 rfl (by rw [u8s_size]; exact HDL.out) (u8s_one _) ?_; intro w2 h1 h2; have H2 : Hid (Bk 24 w2 N (u8s D) ∧ w.grownBy w2 none) := ⟨h1, gb_newer hr.out.2.2.1 h2 (by have := hr.out.2.2.2; omega)⟩; clear h1 h2))
        refine bodyPost_ret (results_cell3 Try.results16 _ _ _ ⟨N, 0, none⟩ (.agg (u8s D)) _ _ rfl rfl rfl (bk_load (T := 24) Try.underlying24 rfl infoD H2.out.1 (by rw [u8s_size]; exact HDL.out))) rfl ?_
        rw [HPP.out]
        exact ⟨rfl, H2.out.2⟩
  · go_enter Try.func16, Try.ntmps16
    go_wp2
    generalize hW1 : World.alloc (World.alloc w _) _ = W1
    have H0 : Hid (PaB 24 w W1 N (pd ts 0)) := by rw [← hW1, hN]; exact HNEW
    rw [← hN]
    clear hW1 HNEW
    have HNN : Hid (N = w.heap.size) := hN
    clear hN
    go_loopw [13] (fun i wr => ∃ k : Nat, k ≤ 64 ∧ i = .int .i64 k ∧ Hid (PaB 24 w wr N (pd ts k)) ∧ Hid (∀ j, j < k → 0 ≤ udx (ts.getD j 0))) (fun i _ => 64 - (intOf i).toNat)
    case atStart => exact ⟨0, Nat.zero_le _, rfl, H0, fun j hj => by omega⟩
    case round =>
      obtain ⟨k, hk, rfl, hr, hg⟩ := hrel
      clear H0
      by_cases hlt : k < 64
      · have hidx := HIX.out k (by omega) .i64
        obtain ⟨c, hc⟩ : ∃ c, c = ts.getD k 0 := ⟨_, rfl⟩
        have hcb : 0 ≤ c ∧ c < 256 := by rw [hc]; have := HB.out k (by rw [HLL.out]; omega); simpa using this
        have HC : Hid (c = ts.getD k 0) := hc
        rw [← hc] at hidx
        clear hc
        have hki : (k : Int) < 64 := by omega
        by_cases hneg : udx c < 0
        · have HPP : Hid (P = (dz32, 50, k)) := by
            show _ = _
            rw [HP.out, pans, HLL.out, ← HN2.out, fbad_some ts 64 k hlt hg.out (by rw [← HC.out]; exact hneg)]
          go_wp2_with (first
          | (refine wpList_build_run rfl 24 _ rfl (.agg (u8s dz32)) (by kernel_rfl) ?_)
          | (refine wpList_store_bk 24 rfl (.tmp 2) (.tmp 22) rfl infoD N (u8s dz32) (u8s dz32) rfl rfl hr.out.1 rfl rfl (u8s_one _) ?_; intro w2 h1 h2; have H2 : Hid (Bk 24 w2 N (u8s dz32) ∧ w.grownBy w2 none) := ⟨h1, gb_newer hr.out.2.2.1 h2 (by have := hr.out.2.2.2; omega)⟩; clear h1 h2)
          | (go_at_call 34; go_must (refine (idx_c _ hcb _).mono ?_); rintro r w1 ⟨rfl, rfl⟩))
          refine bodyPost_ret (results_cell3 Try.results16 _ _ _ ⟨N, 0, none⟩ (.agg (u8s dz32)) _ _ rfl rfl rfl (bk_load (T := 24) Try.underlying24 rfl infoD H2.out.1 rfl)) rfl ?_
          rw [HPP.out]
          exact ⟨rfl, H2.out.2⟩
        · have hub := udx_bd c
          have HUD : Hid (udx c = udx (ts.getD k 0)) := by show _ = _; rw [HC.out]
          obtain ⟨v, hv⟩ : ∃ v, v = udx c := ⟨_, rfl⟩
          have HIC : Hid (Calls Try.prog 34 #[.string { data := #[48, 49, 50, 51, 52, 53, 54, 55, 56, 57, 97, 98, 99, 100, 101, 102] }, .int .u8 c] wr fun e w' => e = .returned (.int .i64 v) ∧ w' = wr) := by rw [hv]; exact idx_c c hcb wr
          rw [← hv] at hub hneg HUD
          have hv0 : 0 ≤ v := by omega
          have hv1 : v < 16 := hub.2
          obtain ⟨m, hm2⟩ : ∃ m, m = k / 2 := ⟨_, rfl⟩
          have hm3 : m < 32 := by omega
          have q1 : (k : Int).tdiv (2 : Int) = (m : Int) := by rw [Int.tdiv_eq_ediv_of_nonneg (by omega)]; omega
          have q2 : (k : Int) / (2 : Int) = (m : Int) := by omega
          obtain ⟨x, hx1⟩ : ∃ x, x = (pd ts k).getD m 0 := ⟨_, rfl⟩
          have hxb : 0 ≤ x ∧ x < 256 := by rw [hx1]; have := pd_bytes ts k m (by rw [pd_len]; exact hm3); simpa using this
          have kc : wr.cell? ⟨N + 1, m, none⟩ = some (.int .u8 x) := by rw [hr.out.2.1.cell _, u8s_at _ _ (by rw [pd_len]; exact hm3), hx1]
          have kf : wr.frozen? ⟨N + 1, m, none⟩ = false := frozen_of_row wr (N + 1) _ _ 24 hr.out.2.1
          obtain ⟨z, hz1⟩ : ∃ z, z = x * 16 % 256 := ⟨_, rfl⟩
          obtain ⟨y, hy1⟩ : ∃ y, y = (z + v) % 256 := ⟨_, rfl⟩
          have e1 : x * (16 : Int) % (256 : Int) = z := hz1.symm
          have e2 : (z + v) % (256 : Int) = y := hy1.symm
          have e3 : v % (256 : Int) = v := by omega
          have HPD : Hid (pd ts (k + 1) = (pd ts k).set m y) := by
            show _ = _
            rw [pd, ← hm2, ← hx1, hy1, hz1, ← HUD.out]
            congr 1; omega
          have HG2 : Hid (∀ j, j < k + 1 → 0 ≤ udx (ts.getD j 0)) := fun j hj => by
            rcases Nat.lt_or_ge j k with h | h
            · exact hg.out j h
            · obtain rfl : j = k := by omega
              rw [← HUD.out]; exact hv0
          have HYZ : Hid (z + v = y) := by show _ = _; omega
          have hm4 : (m : Int) < 32 := by omega
          clear hv hm2 hx1 hz1 hy1 hub hg HUD
          go_wp2_with (go_at_call 34; go_must (refine (Calls.mono HIC.out ?_)); rintro r w1 ⟨rfl, rfl⟩)
          go_roundw
          case rel => exact ⟨k + 1, by omega, by go_num, by rw [HPD.out, ← HYZ.out]; exact hr.out.set m (z + v), HG2⟩
          case measure => simp [intOf]; omega
      · obtain rfl : k = 64 := by omega
        have hcb : (0 : Int) ≤ 0 ∧ (0 : Int) < 256 := by omega
        have HPP : Hid (P = (dz32, 50, 64)) := by
          show _ = _
          rw [HP.out, pans, HLL.out, ← HN2.out, fbad_none ts 64 hg.out]
          show (if _ = 64 then _ else _) = _
          rw [if_neg (by omega)]
        have hne : ¬ (L : Int) = 64 := by omega
        go_wp2_with (first
          | (refine wpList_build_run rfl 24 _ rfl (.agg (u8s dz32)) (by kernel_rfl) ?_)
          | (refine wpList_store_bk 24 rfl (.tmp 2) (.tmp 39) rfl infoD N (u8s dz32) (u8s dz32) rfl rfl hr.out.1 rfl rfl (u8s_one _) ?_; intro w2 h1 h2; have H2 : Hid (Bk 24 w2 N (u8s dz32) ∧ w.grownBy w2 none) := ⟨h1, gb_newer hr.out.2.2.1 h2 (by have := hr.out.2.2.2; omega)⟩; clear h1 h2)
          | (go_at_call 34; go_must (refine (idx_c _ hcb _).mono ?_); rintro r w1 ⟨rfl, rfl⟩))
        refine bodyPost_ret (results_cell3 Try.results16 _ _ _ ⟨N, 0, none⟩ (.agg (u8s dz32)) _ _ rfl rfl rfl (bk_load (T := 24) Try.underlying24 rfl infoD H2.out.1 rfl)) rfl ?_
        rw [HPP.out]
        exact ⟨rfl, H2.out.2⟩
end Go.Proofs.Ytkbknghomoombaa
