/-
  Lists of updates in memory; what delta's Stream answers of one: the bytes of all, or the first error. Condition: at most 2^30 updates.
-/
import Derived.Test.YtfbbaodhlniiiaaDDp
namespace Go.Proofs.Ytfbbaodhlniiiaa.Dl
open Go.RowKit
set_option linter.unusedVariables false

def zUpd : Upd := ⟨0, 0, 0, 0, .empty, .empty, 0⟩
def upAt (X : List Upd) (k : Nat) : Upd := X[k]?.getD zUpd
/-- Updates that can be read. -/
def Upds (w : World) (a : Option Addr) (n : Nat) (X : List Upd) : Prop :=
  X.length = n ∧ (n = 0 ∨ ∃ b off, a = some ⟨b, off, none⟩ ∧ b < w.heap.size ∧ ∀ i, i < n → w.rangeAt b (off + i * 7) (upAt X i).cells)
theorem Upds.below {w w' : World} {a : Option Addr} {n : Nat} {X : List Upd} (h : Upds w a n X) (hb : Below w.heap.size w w') : Upds w' a n X := by
  refine ⟨h.1, ?_⟩
  rcases h.2 with h0 | ⟨b, off, ha, hlt, hc⟩
  · exact .inl h0
  · have := hb.size
    exact .inr ⟨b, off, ha, by omega, fun i hi j v hv => (hb.cell (p := ⟨b, off + i * 7 + j, none⟩) hlt).trans (hc i hi j v hv)⟩
/-- The first error; the bytes, one behind the other, each behind its length. -/
def stE (X : List Upd) : Nat → Int
  | 0 => 0
  | k + 1 => if stE X k ≠ 0 then stE X k else (upAt X k).err
def one (u : Upd) : List Int := enc u.bytes.length ++ u.bytes
def stB (X : List Upd) : Nat → List Int
  | 0 => []
  | k + 1 => stB X k ++ one (upAt X k)
def stZ (X : List Upd) (n : Nat) : List Int := if stE X n = 0 then stB X n else []
theorem stE_stay (X : List Upd) (k n : Nat) (h : k ≤ n) (he : stE X k ≠ 0) : stE X n = stE X k := by
  induction n with
  | zero =>
    obtain rfl : k = 0 := by omega
    rfl
  | succ n ih =>
    rcases Nat.lt_or_ge n k with q | q
    · obtain rfl : k = n + 1 := by omega
      rfl
    · have e := ih q
      show (if stE X n ≠ 0 then stE X n else _) = _
      rw [e, if_pos he]
theorem one_len (u : Upd) (h : u.err = 0) : (one u).length ≤ 66650 := by
  have h1 : u.bytes.length ≤ 66640 := updB_len h
  have h2 := enc_leN u.bytes.length (by omega)
  unfold one
  rw [List.length_append]
  omega
theorem wm_new {B : Nat} {w wr wr' : World} {ys : List Int} {e : Int} (h : WM B w wr ys e) (hg : wr.grownBy wr' none) : WM B w wr' ys e := by
  obtain ⟨fs, h1, h2, h3, h4⟩ := h
  exact ⟨fs, h1.new hg, h2, h3.grown hg h4 (fun k hk => by cases hk), by have := hg.size; omega⟩
theorem cells_size (u : Upd) : u.cells.toArray.size = 7 := rfl
theorem str_ownD {W : World} {va : Option Addr} {L vc : Nat} {Z : List Int} {B : Nat} (h : Own B W (.slice va L vc) L Z) : (convert 28 9 (.slice va L vc)).run Try.prog W = .ok (.string (strOfNums Z)) W := by
  obtain ⟨a, c, e, hs, _, _⟩ := h.seg
  cases e
  exact seg_string (P := Try.prog) 28 9 5 vc hs Try.underlying28 Try.underlying5 Try.underlying9
theorem bytesD (u : Upd) : Bytes u.bytes := bytes_of_mem (fun c hc => by
  have he : ∀ n, ∀ c ∈ enc n, (0 : Int) ≤ c ∧ c < 256 := fun n => enc_bytes n
  have hsb : ∀ (t : ByteArray), ∀ c ∈ sb t, (0 : Int) ≤ c ∧ c < 256 := fun t c hc => by
    unfold sb at hc
    obtain ⟨z, _, rfl⟩ := List.mem_map.1 hc
    have := z.toNat_lt
    omega
  unfold Upd.bytes updB updA at hc
  simp only [List.mem_append] at hc
  rcases hc with ((((((hc | hc) | hc) | hc) | (hc | hc))) | hc) | hc
  · exact he _ c hc
  · exact he _ c hc
  · exact he _ c hc
  · exact he _ c hc
  · exact he _ c hc
  · exact hsb _ c hc
  · split at hc
    · cases hc
    · rcases List.mem_append.1 hc with hc | hc
      · exact he _ c hc
      · exact hsb _ c hc
  · split at hc
    · exact he _ c hc
    · cases hc)
set_option maxRecDepth 20000 in
set_option maxHeartbeats 2000000 in
theorem stream_c (a : Option Addr) (n cap : Nat) (X : List Upd) (w : World) (h : Upds w a n X) (hn : n ≤ 1073741824) :
    Calls Try.prog 9 #[.slice a n cap] w fun r w' => ∃ va vc, r = .returned (.tuple #[.slice va (stZ X n).length vc, .int .i64 (stE X n)]) ∧ Own w.heap.size w' (.slice va (stZ X n).length vc) (stZ X n).length (stZ X n) ∧ Below w.heap.size w w' := by
  have HX : Hid (Upds w a n X) := h
  obtain ⟨B, hB⟩ : ∃ B, B = w.heap.size := ⟨_, rfl⟩
  have HBW : Hid (B = w.heap.size) := hB
  clear h
  go_enter Try.func9, Try.ntmps9
  go_wp2_with fail
  rw [← hB]
  generalize hW1 : World.alloc w _ = W1
  have H1 : Hid (WM B w W1 [] 0) := by
    rw [← hW1, hB]
    exact ⟨[], ws_none (heap_new w _), by simp, (Below.refl _ _).alloc (Nat.le_refl _) _, by simp⟩
  clear hW1 hB
  go_wp2
  go_loopw [11] (fun i wr => ∃ k : Nat, k ≤ n ∧ i = .int .i64 (k : Int) ∧ Hid (WM B w wr (stB X k) 0 ∧ stE X k = 0 ∧ (stB X k).length ≤ 66650 * k)) (fun i _ => n - (intOf i).toNat)
  case atStart => exact ⟨0, Nat.zero_le _, rfl, H1.out, rfl, by simp [stB]⟩
  case round =>
    obtain ⟨k, hk, rfl, hr⟩ := hrel
    clear H1
    by_cases hlt : k < n
    · have hi1 : (k : Int) < n := by omega
      rcases HX.out.2 with z | ⟨b, off, rfl, hbl, hcl⟩
      · omega
      obtain ⟨u, hu⟩ : ∃ u, u = upAt X k := ⟨_, rfl⟩
      have hWB := hr.out.1
      have HRG : Hid (wr.rangeAt b (off + k * 7) u.cells) := by
        rw [hu]
        obtain ⟨fs, _, _, hbel, _⟩ := hWB
        intro j v hv
        exact (hbel.cell (p := ⟨b, off + k * 7 + j, none⟩) (by rw [HBW.out]; exact hbl)).trans (hcl k hlt j v hv)
      have HNX : Hid (stE X (k + 1) = u.err ∧ (u.err ≠ 0 → stE X n = u.err) ∧ stB X (k + 1) = stB X k ++ one u) := by
        have e : stE X (k + 1) = u.err := by show (if stE X k ≠ 0 then stE X k else (upAt X k).err) = _; rw [hr.out.2.1, ← hu]; simp
        exact ⟨e, fun z => by rw [stE_stay X (k + 1) n (by omega) (by rw [e]; exact z), e], by rw [hu]; rfl⟩
      clear hu hcl hWB
      obtain ⟨q, c, m, kd, key, val, ver⟩ := u
      obtain ⟨N, hN⟩ : ∃ N, N = wr.heap.size := ⟨_, rfl⟩
      have A1 : Hid (Bk 27 (wr.alloc (.cells #[.int .i64 q, .int .i64 c, .int .i64 m, .int .i64 kd, .string key, .string val, .int .i64 ver] 27)) wr.heap.size #[.int .i64 q, .int .i64 c, .int .i64 m, .int .i64 kd, .string key, .string val, .int .i64 ver] ∧ WM B w (wr.alloc (.cells #[.int .i64 q, .int .i64 c, .int .i64 m, .int .i64 kd, .string key, .string val, .int .i64 ver] 27)) (stB X k) 0) := ⟨(blk_new _ _ _).1, wm_new hr.out.1 (gb_alloc _ _)⟩
      have HBN : Hid (B ≤ wr.heap.size) := by obtain ⟨_, _, _, _, h4⟩ := hr.out.1; exact h4
      clear hN
      by_cases hE : Upd.err ⟨q, c, m, kd, key, val, ver⟩ = 0
      · have hb := one_len _ hE
        obtain ⟨Z, hZ⟩ : ∃ Z, Z = updZ q c m kd key val ver := ⟨_, rfl⟩
        have hZ2 : Z = Upd.bytes ⟨q, c, m, kd, key, val, ver⟩ := by rw [hZ]; unfold updZ; rw [if_pos (show updE q c m kd key val ver = 0 from hE)]; rfl
        obtain ⟨L, hL⟩ : ∃ L, L = Z.length := ⟨_, rfl⟩
        have HEN : Hid (∀ W, Calls Try.prog 29 #[.agg #[.int .i64 q, .int .i64 c, .int .i64 m, .int .i64 kd, .string key, .string val, .int .i64 ver]] W fun r w' => ∃ va vc, r = .returned (.tuple #[.slice va L vc, .int .i64 0]) ∧ Own W.heap.size w' (.slice va L vc) L Z ∧ Below W.heap.size W w') := fun W => by
          have := encode_c q c m kd key val ver W
          unfold EA at this
          rw [← hZ, ← hL, show updE q c m kd key val ver = 0 from hE] at this
          exact this
        obtain ⟨T, hT⟩ : ∃ T, T = strOfNums Z := ⟨_, rfl⟩
        have HTT : Hid (T = strOfNums Z ∧ T.size = L ∧ sb T = Z ∧ L ≤ 66640 ∧ enc T.size ++ sb T = one ⟨q, c, m, kd, key, val, ver⟩) := by
          have e1 : T.size = L := by rw [hT, size_strOfNums, hL]
          have e2 : sb T = Z := by rw [hT]; exact sb_strOfNums _ (by rw [hZ2]; exact bytesD _)
          refine ⟨hT, e1, e2, ?_, ?_⟩
          · rw [hL, hZ2]; exact updB_len hE
          · rw [e1, e2, hL, hZ2]; rfl
        clear hb hZ hZ2 hL hT
        go_wp2_with (first
          | (refine wpList_load_mid rfl 27 (.tmp 13) rfl b (off + k * 7) (by first | rfl | simp) [.int .i64 q, .int .i64 c, .int .i64 m, .int .i64 kd, .string key, .string val, .int .i64 ver] _ HRG.out Try.underlying27 rfl (by kernel_rfl) ?_)
          | (have z := A1; clear z; (fail_if_success (have z := A2)); refine wpList_load_bk 27 rfl (.tmp 6) rfl Try.underlying27 rfl infoUpd wr.heap.size _ rfl A1.out.1 rfl ?_)
          | (have z := A1; clear z; go_at_call 29; go_must (refine (Calls.mono (HEN.out _) ?_)); rintro r x2 ⟨va, vc, rfl, h1, h2⟩; have A2 : Hid (WM B w x2 (stB X k) 0) := wm_new A1.out.2 (below_gb h2); have hcv := str_ownD h1; rw [← HTT.out.1] at hcv; clear h1 h2)
          | (have z := A2; clear z; go_at_call 33; go_must (refine (A2.out.textm T (L : Int) (by have := HTT.out.2.1; omega) (by have := HTT.out.2.1; have := HTT.out.2.2.2.1; omega) (by have := HTT.out.2.1; have := HTT.out.2.2.2.1; have := hr.out.2.2; omega)).mono ?_); rintro r x3 ⟨rfl, h3⟩; rw [HTT.out.2.2.2.2, ← HNX.out.2.2] at h3; have A3 : Hid (WM B w x3 (stB X (k + 1)) 0) := h3; clear h3))
        go_roundw
        case rel => exact ⟨k + 1, by omega, by go_num, A3.out, by rw [HNX.out.1]; exact hE, by rw [HNX.out.2.2, List.length_append]; have := one_len _ hE; have := hr.out.2.2; omega⟩
        case measure => simp [intOf]; omega
      · obtain ⟨F, hF⟩ : ∃ F, F = Upd.err ⟨q, c, m, kd, key, val, ver⟩ := ⟨_, rfl⟩
        have hFb : (F != 0) = true := by rw [hF]; simp [hE]
        have HF : Hid (stE X n = F ∧ F ≠ 0) := ⟨by rw [hF]; exact HNX.out.2.1 hE, by rw [hF]; exact hE⟩
        obtain ⟨Z, hZ⟩ : ∃ Z, Z = updZ q c m kd key val ver := ⟨_, rfl⟩
        obtain ⟨L, hL⟩ : ∃ L, L = Z.length := ⟨_, rfl⟩
        have HEN : Hid (∀ W, Calls Try.prog 29 #[.agg #[.int .i64 q, .int .i64 c, .int .i64 m, .int .i64 kd, .string key, .string val, .int .i64 ver]] W fun r w' => ∃ va vc, r = .returned (.tuple #[.slice va L vc, .int .i64 F]) ∧ Own W.heap.size w' (.slice va L vc) L Z ∧ Below W.heap.size W w') := fun W => by
          have := encode_c q c m kd key val ver W
          unfold EA at this
          rw [← hZ, ← hL, show updE q c m kd key val ver = F from hF.symm] at this
          exact this
        clear hE hF hZ hL
        go_wp2_with (first
          | (refine wpList_load_mid rfl 27 (.tmp 13) rfl b (off + k * 7) (by first | rfl | simp) [.int .i64 q, .int .i64 c, .int .i64 m, .int .i64 kd, .string key, .string val, .int .i64 ver] _ HRG.out Try.underlying27 rfl (by kernel_rfl) ?_)
          | (have z := A1; clear z; (fail_if_success (have z := A2)); refine wpList_load_bk 27 rfl (.tmp 6) rfl Try.underlying27 rfl infoUpd wr.heap.size _ rfl A1.out.1 rfl ?_)
          | (have z := A1; clear z; go_at_call 29; go_must (refine (Calls.mono (HEN.out _) ?_)); rintro r x2 ⟨va, vc, rfl, h1, h2⟩; have A2 : Hid (WM B w x2 (stB X k) 0) := wm_new A1.out.2 (below_gb h2); clear h1 h2))
        go_ret2
        have e : stZ X n = [] := if_neg (by rw [HF.out.1]; exact HF.out.2)
        rw [e, HF.out.1, ← HBW.out]
        obtain ⟨_, _, _, hbel, _⟩ := A2.out
        exact ⟨none, 0, rfl, own_nil _ _, hbel⟩
    · obtain rfl : k = n := by omega
      have hge : ¬ (k : Int) < k := by omega
      go_wp2_with (go_at_call 34; go_must (refine (hr.out.1.bytes_ok (by have := hr.out.2.2; omega)).mono ?_); rintro r wb ⟨g, rfl, h1, h2, h3⟩; have GB : Hid (B ≤ g ∧ Row .u8 5 wb g (stB X k) ∧ Below B w wb) := ⟨h1, h2, h3⟩; clear h1 h2 h3)
      go_ret2
      have e : stZ X k = stB X k := if_pos hr.out.2.1
      rw [e, hr.out.2.1, ← HBW.out]
      exact ⟨_, _, rfl, own_row GB.out.2.1 GB.out.1 (by have := hr.out.2.2; unfold maxLen; omega), GB.out.2.2⟩
end Go.Proofs.Ytfbbaodhlniiiaa.Dl
