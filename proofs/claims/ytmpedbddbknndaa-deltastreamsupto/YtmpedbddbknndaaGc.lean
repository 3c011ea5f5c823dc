/-
  What the document's Stream answers of a list of updates: the bytes of all, or the first error. Condition: at most 2^20 updates.
  The law of Stream: delta's Stream answers the document's bytes and error. Condition: at most 2^20 updates.
-/
import Derived.Test.YtmpedbddbknndaaGa
import Derived.Test.YtmpedbddbknndaaDGd
import Derived.Test.YtmpedbddbknndaaGb
namespace Go.Proofs.Ytmpedbddbknndaa.Dl
open Go.RowKit
set_option linter.unusedVariables false
theorem own_far {B : Nat} {w w' : World} {v : Value} {n : Nat} {xs : List Int} {row : Option Nat} (h : Own B w v n xs) (hg : w.grownBy w' row) (hr : ∀ k, row = some k → k < B) : Own B w' v n xs := by
  refine ⟨h.1, ?_⟩
  rcases h.2 with q | ⟨g, cap, cur, q1, q2, q3, q4⟩
  · exact .inl q
  · exact .inr ⟨g, cap, cur, q1, q2, (hg.block g (lt_of_block q3) (fun e => by have := hr g e.symm; omega)).trans q3, q4⟩
theorem own_hi {B : Nat} {w : World} {v : Value} {n : Nat} {xs : List Int} (h : Own B w v n xs) : ∀ g, v.ownBlock = some g → g < w.heap.size := by
  intro g hg
  rcases h.2 with ⟨rfl, _⟩ | ⟨g', cap, cur, rfl, hB, q3, _⟩
  · cases hg
  · cases hg; exact lt_of_block q3
theorem own_seg0 {B : Nat} {w : World} {va : Option Addr} {L vc : Nat} {Z : List Int} (h : Own B w (.slice va L vc) L Z) : Seg .u8 w va L Z ∧ (va = none → vc = 0) := by
  obtain ⟨a, c, e, hs, hn, _⟩ := h.seg
  cases e
  exact ⟨hs, hn⟩
/-- The document's bytes of the updates up to the k-th. -/
def GI (B : Nat) (w W : World) (X : List Upd) (k : Nat) (v : Value) : Prop := Own B W v (stB X k).length (stB X k) ∧ Below B w W ∧ B ≤ W.heap.size ∧ stE X k = 0 ∧ (stB X k).length ≤ 66650 * k
set_option maxRecDepth 20000 in
set_option maxHeartbeats 2000000 in
theorem gstream_c (a : Option Addr) (n cap : Nat) (X : List Upd) (w : World) (h : Upds w a n X) (hn : n ≤ 1048576) :
    Calls Try.prog 16 #[.slice a n cap] w fun r w' => ∃ va vc, r = .returned (.tuple #[.slice va (stZ X n).length vc, .int .i64 (stE X n)]) ∧ Own w.heap.size w' (.slice va (stZ X n).length vc) (stZ X n).length (stZ X n) ∧ Below w.heap.size w w' := by
  have HX : Hid (Upds w a n X) := h
  obtain ⟨B, hB⟩ : ∃ B, B = w.heap.size := ⟨_, rfl⟩
  have HBW : Hid (B = w.heap.size) := hB
  clear h
  go_enter Try.func16, Try.ntmps16
  rw [← hB]
  clear hB
  go_wp2_with fail
  go_loopw [4, 5] (fun v i wr => ∃ (k : Nat) (bv : Value), k ≤ n ∧ v = bv ∧ i = .int .i64 (k : Int) ∧ Hid (GI B w wr X k bv)) (fun _ i _ => n - (intOf i).toNat)
  case atStart => exact ⟨0, _, Nat.zero_le _, rfl, rfl, own_nil _ _, by rw [HBW.out]; exact Below.refl _ _, by rw [HBW.out]; exact Nat.le_refl _, rfl, by simp [stB]⟩
  case round =>
    obtain ⟨k, bv, hk, hbv, rfl, hr⟩ := hrel
    obtain rfl := hbv.symm
    by_cases hlt : k < n
    · have hi1 : (k : Int) < n := by omega
      rcases HX.out.2 with z | ⟨b, off, rfl, hbl, hcl⟩
      · omega
      obtain ⟨u, hu⟩ : ∃ u, u = upAt X k := ⟨_, rfl⟩
      have HRG : Hid (wr.rangeAt b (off + k * 7) u.cells) := by
        rw [hu]
        intro j v hv
        exact (hr.out.2.1.cell (p := ⟨b, off + k * 7 + j, none⟩) (by rw [HBW.out]; exact hbl)).trans (hcl k hlt j v hv)
      have HNX : Hid (stE X (k + 1) = u.err ∧ (u.err ≠ 0 → stE X n = u.err) ∧ stB X (k + 1) = stB X k ++ one u) := by
        have e : stE X (k + 1) = u.err := by show (if stE X k ≠ 0 then stE X k else (upAt X k).err) = _; rw [hr.out.2.2.2.1, ← hu]; simp
        exact ⟨e, fun z => by rw [stE_stay X (k + 1) n (by omega) (by rw [e]; exact z), e], by rw [hu]; rfl⟩
      clear hu hcl
      obtain ⟨q, c, m, kd, key, val, ver⟩ := u
      by_cases hE : Upd.err ⟨q, c, m, kd, key, val, ver⟩ = 0
      · have hb := one_len _ hE
        obtain ⟨Z, hZ⟩ : ∃ Z, Z = updZ q c m kd key val ver := ⟨_, rfl⟩
        have hZ2 : Z = Upd.bytes ⟨q, c, m, kd, key, val, ver⟩ := by rw [hZ]; unfold updZ; rw [if_pos (show updE q c m kd key val ver = 0 from hE)]; rfl
        obtain ⟨L, hL⟩ : ∃ L, L = Z.length := ⟨_, rfl⟩
        have HEN : Hid (∀ W, Calls Try.prog 10 #[.agg #[.int .i64 q, .int .i64 c, .int .i64 m, .int .i64 kd, .string key, .string val, .int .i64 ver]] W fun r w' => ∃ va vc, r = .returned (.tuple #[.slice va L vc, .int .i64 0]) ∧ Own W.heap.size w' (.slice va L vc) L Z ∧ Below W.heap.size W w') := fun W => by
          have := gencode_c q c m kd key val ver W
          unfold EA at this
          rw [← hZ, ← hL, show updE q c m kd key val ver = 0 from hE] at this
          exact this
        have HNM : Hid (∀ W, Calls Try.prog 30 #[.int .i64 (L : Int)] W fun r w' => Ans (enc L) W r w') := fun W => by
          have h9 : L ≤ 66640 := by rw [hL, hZ2]; exact updB_len hE
          have := gnum_c (L : Int) (by omega) (by omega) W
          simpa using this
        have HTT : Hid (L ≤ 66640 ∧ (enc L).length ≤ 10 ∧ enc L ++ Z = one ⟨q, c, m, kd, key, val, ver⟩ ∧ L = Z.length) := by
          have h9 : L ≤ 66640 := by rw [hL, hZ2]; exact updB_len hE
          exact ⟨h9, enc_leN _ (by omega), by rw [hL, hZ2]; rfl, hL⟩
        have HLB : Hid ((stB X k).length ≤ 66650 * k ∧ B ≤ wr.heap.size) := ⟨hr.out.2.2.2.2, hr.out.2.2.1⟩
        clear hb hZ hZ2 hL
        go_wp2_with (first
          | (refine wpList_load_mid rfl 36 (.tmp 17) rfl b (off + k * 7) (by first | rfl | simp) [.int .i64 q, .int .i64 c, .int .i64 m, .int .i64 kd, .string key, .string val, .int .i64 ver] _ HRG.out Try.underlying36 rfl (by kernel_rfl) ?_)
          | (go_at_call 10; go_must (refine (Calls.mono (HEN.out _) ?_)); rintro r x2 ⟨va, vc, rfl, h1, h2⟩; have A2 : Hid (Own wr.heap.size x2 (.slice va L vc) L Z ∧ Own B x2 bv (stB X k).length (stB X k) ∧ Below B w x2 ∧ wr.heap.size ≤ x2.heap.size) := ⟨h1, own_below hr.out.1 h2, hr.out.2.1.trans (h2.mono HLB.out.2), h2.size⟩; clear h1 h2)
          | (have z := A2; clear z; (fail_if_success (have z := A3)); go_at_call 30; go_must (refine (Calls.mono (HNM.out _) ?_)); rintro r x3 ⟨ao, mm, cc, rfl, hm, ho, hsg, hn, hb⟩; have A3 : Hid (Own wr.heap.size x3 (.slice va L vc) L Z ∧ Own B x3 bv (stB X k).length (stB X k) ∧ Below B w x3 ∧ wr.heap.size ≤ x3.heap.size ∧ Seg .u8 x3 ao mm (enc L) ∧ (ao = none → cc = 0) ∧ mm = (enc L).length) := ⟨own_below A2.out.1 hb, own_below A2.out.2.1 hb, A2.out.2.2.1.trans (hb.mono (Nat.le_trans HLB.out.2 A2.out.2.2.2)), by have := hb.size; have := A2.out.2.2.2; omega, hsg, hn, hm⟩; clear hm ho hsg hn hb)
          | (have z := A3; clear z; (fail_if_success (have z := A4)); at_builtin; go_must (refine wpList_append_apart _ rfl (.tmp 25) (.tmp 28) rfl B _ _ _ rfl A3.out.2.1 ao mm cc (enc L) rfl A3.out.2.2.2.2.2.1 A3.out.2.2.2.2.1 (by have := A3.out.2.2.2.2.2.2; have := HTT.out.2.1; have := HLB.out.1; omega) (by have := A3.out.2.2.2.1; have := HLB.out.2; omega) ?_); intro v4 x4 ho hg _; have A4 : Hid (Own wr.heap.size x4 (.slice va L vc) L Z ∧ Own B x4 v4 ((stB X k).length + mm) (stB X k ++ enc L) ∧ Below B w x4 ∧ B ≤ x4.heap.size ∧ mm = (enc L).length) := ⟨own_far A3.out.1 hg (fun z hz => own_hi hr.out.1 z hz), ho, A3.out.2.2.1.trans ((Below.refl _ _).grown hg (by have := A3.out.2.2.2.1; have := HLB.out.2; omega) (fun z hz => own_lo A3.out.2.1 z hz)), by have := hg.size; have := A3.out.2.2.2.1; have := HLB.out.2; omega, A3.out.2.2.2.2.2.2⟩; clear ho hg)
          | (have z := A4; clear z; (fail_if_success (have z := A5)); at_builtin; go_must (refine wpList_append_apart _ rfl (.tmp 30) (.tmp 31) rfl B _ _ _ rfl A4.out.2.1 va L vc Z rfl (own_seg0 A4.out.1).2 (own_seg0 A4.out.1).1 (by have := A4.out.2.2.2.2; have := HTT.out.2.1; have := HTT.out.1; have := HLB.out.1; omega) A4.out.2.2.2.1 ?_); intro v5 x5 ho hg _; have A5 : Hid (Own B x5 v5 ((stB X k).length + mm + L) (stB X k ++ enc L ++ Z) ∧ Below B w x5 ∧ B ≤ x5.heap.size) := ⟨ho, A4.out.2.2.1.trans ((Below.refl _ _).grown hg A4.out.2.2.2.1 (fun z hz => own_lo A4.out.2.1 z hz)), by have := hg.size; have := A4.out.2.2.2.1; omega⟩; clear ho hg))
        go_roundw
        case rel =>
          refine ⟨k + 1, v5, by omega, rfl, by go_num, ?_, A5.out.2.1, A5.out.2.2, by rw [HNX.out.1]; exact hE, by rw [HNX.out.2.2, List.length_append]; have := one_len _ hE; have := HLB.out.1; omega⟩
          rw [HNX.out.2.2, ← HTT.out.2.2.1, ← List.append_assoc]
          have e : (stB X k ++ enc L ++ Z).length = (stB X k).length + mm + L := by rw [List.length_append, List.length_append, A4.out.2.2.2.2, HTT.out.2.2.2]
          rw [e]
          exact A5.out.1
        case measure => simp [intOf]; omega
      · obtain ⟨F, hF⟩ : ∃ F, F = Upd.err ⟨q, c, m, kd, key, val, ver⟩ := ⟨_, rfl⟩
        have hFb : (F != 0) = true := by rw [hF]; simp [hE]
        have HF : Hid (stE X n = F ∧ F ≠ 0) := ⟨by rw [hF]; exact HNX.out.2.1 hE, by rw [hF]; exact hE⟩
        obtain ⟨Z, hZ⟩ : ∃ Z, Z = updZ q c m kd key val ver := ⟨_, rfl⟩
        obtain ⟨L, hL⟩ : ∃ L, L = Z.length := ⟨_, rfl⟩
        have HEN : Hid (∀ W, Calls Try.prog 10 #[.agg #[.int .i64 q, .int .i64 c, .int .i64 m, .int .i64 kd, .string key, .string val, .int .i64 ver]] W fun r w' => ∃ va vc, r = .returned (.tuple #[.slice va L vc, .int .i64 F]) ∧ Own W.heap.size w' (.slice va L vc) L Z ∧ Below W.heap.size W w') := fun W => by
          have := gencode_c q c m kd key val ver W
          unfold EA at this
          rw [← hZ, ← hL, show updE q c m kd key val ver = F from hF.symm] at this
          exact this
        clear hE hF hZ hL
        go_wp2_with (first
          | (refine wpList_load_mid rfl 36 (.tmp 17) rfl b (off + k * 7) (by first | rfl | simp) [.int .i64 q, .int .i64 c, .int .i64 m, .int .i64 kd, .string key, .string val, .int .i64 ver] _ HRG.out Try.underlying36 rfl (by kernel_rfl) ?_)
          | (go_at_call 10; go_must (refine (Calls.mono (HEN.out _) ?_)); rintro r x2 ⟨va, vc, rfl, h1, h2⟩; have A2 : Hid (Below B w x2) := hr.out.2.1.trans (h2.mono hr.out.2.2.1); clear h1 h2))
        go_ret2
        have e : stZ X n = [] := if_neg (by rw [HF.out.1]; exact HF.out.2)
        rw [e, HF.out.1]
        exact ⟨none, 0, rfl, own_nil _ _, A2.out⟩
    · obtain rfl : k = n := by omega
      have hge : ¬ (k : Int) < k := by omega
      go_wp2_with fail
      go_ret2
      have e : stZ X k = stB X k := if_pos hr.out.2.2.2.1
      rw [e, hr.out.2.2.2.1]
      obtain ⟨va, vc, hv, _⟩ := hr.out.1.seg
      have ho := hr.out.1
      have hb := hr.out.2.1
      clear hr
      subst hv
      exact ⟨va, vc, rfl, ho, hb⟩
end Go.Proofs.Ytmpedbddbknndaa.Dl
namespace Go.Proofs.Ytmpedbddbknndaa.Dl
open Go.RowKit
set_option linter.unusedVariables false
def lit1 : Upd := ⟨1, 1, 1, 2, { data := #[97] }, .empty, 0⟩
theorem lit1_err : lit1.err = 0 := by decide +kernel
theorem lit1_bytes : lit1.bytes = [1, 1, 1, 2, 1, 97] := by
  unfold Upd.bytes updB updA lit1
  have e1 : enc 1 = [1] := enc_small (by omega)
  have e2 : enc 2 = [2] := enc_small (by omega)
  have z : ByteArray.size { data := #[97] } = 1 := rfl
  simp [e1, e2, z, sb]
theorem lit1_st : stE [lit1] 1 = 0 ∧ (stZ [lit1] 1).length = 7 := by
  have e : stE [lit1] 1 = 0 := by
    show (if stE [lit1] 0 ≠ 0 then stE [lit1] 0 else (upAt [lit1] 0).err) = 0
    rw [if_neg (by simp [stE])]
    exact lit1_err
  refine ⟨e, ?_⟩
  unfold stZ
  rw [if_pos e]
  show ([] ++ one lit1).length = 7
  unfold one
  rw [lit1_bytes]
  have e1 : enc ([1, 1, 1, 2, 1, 97] : List Int).length = [6] := enc_small (by simp)
  rw [e1]
  rfl
theorem lit1_upds (w : World) : Upds (w.alloc (.cells #[.int .i64 1, .int .i64 1, .int .i64 1, .int .i64 2, .string { data := #[97] }, .string .empty, .int .i64 0] 26)) (some ⟨w.heap.size, 0, none⟩) 1 [lit1] := by
  refine ⟨rfl, .inr ⟨w.heap.size, 0, rfl, by simp, fun i hi => ?_⟩⟩
  obtain rfl : i = 0 := by omega
  intro j v hv
  rw [Nat.zero_mul, Nat.add_zero, Nat.zero_add, cell_of_row _ _ j _ _ _ (heap_new w _)]
  have : upAt [lit1] 0 = lit1 := rfl
  rw [this] at hv
  simpa [Upd.cells, lit1] using hv
theorem lit1_c (w : World) : Calls Try.prog 15 #[.slice (some ⟨w.heap.size, 0, none⟩) 1 1] (w.alloc (.cells #[.int .i64 1, .int .i64 1, .int .i64 1, .int .i64 2, .string { data := #[97] }, .string .empty, .int .i64 0] 26)) fun r w' => ∃ va vc, r = .returned (.tuple #[.slice va 7 vc, .int .i64 0]) ∧ w.grownBy w' none := by
  have h := stream_c _ 1 1 [lit1] _ (lit1_upds w) (by omega)
  rw [lit1_st.1, lit1_st.2] at h
  refine h.mono ?_
  rintro r w' ⟨va, vc, h1, _, h2⟩
  exact ⟨va, vc, h1, gb_trans (gb_alloc _ _) (below_gb h2)⟩
/-- Where the law's own list lies. -/
def SS (w W : World) (g n : Nat) (X : List Upd) : Prop := w.grownBy W none ∧ Upds W (some ⟨g, 0, none⟩) n X ∧ g < W.heap.size ∧ W.cell? ⟨g, n * 7, none⟩ = some (.int .i64 (-91)) ∧ W.cell? ⟨g, (n + 1) * 7, none⟩ = some (.int .i64 (-92))
theorem SS.later {w W W' : World} {g n : Nat} {X : List Upd} (h : SS w W g n X) (hg : W.grownBy W' none) : SS w W' g n X :=
  ⟨gb_trans h.1 hg, h.2.1.below (gb_below hg), Nat.lt_of_lt_of_le h.2.2.1 hg.size, ((gb_below hg).cell (p := ⟨g, n * 7, none⟩) h.2.2.1).trans h.2.2.2.1, ((gb_below hg).cell (p := ⟨g, (n + 1) * 7, none⟩) h.2.2.1).trans h.2.2.2.2⟩
theorem ss_of {B : Nat} {w W : World} {g fc : Nat} {X : List Upd} (hg : w.grownBy W none) (h : UOwn B W (.slice (some ⟨g, 0, none⟩) (X.length + 2) fc) (X ++ [⟨-91, 0, 0, 0, .empty, .empty, 0⟩, ⟨-92, 0, 0, 0, .empty, .empty, 0⟩])) : SS w W g X.length X := by
  have e : (X ++ [(⟨-91, 0, 0, 0, .empty, .empty, 0⟩ : Upd), ⟨-92, 0, 0, 0, .empty, .empty, 0⟩]).length = X.length + 2 := by simp
  unfold UOwn at h
  rw [e] at h
  have hlt : g < W.heap.size := by
    rcases h.2 with ⟨q, _⟩ | ⟨g', cap', cur, q, _, hb, _⟩
    · cases q
    · cases q; exact lt_of_block hb
  refine ⟨hg, ⟨rfl, .inr ⟨g, 0, rfl, hlt, fun i hi => ?_⟩⟩, hlt, ?_, ?_⟩
  · rw [Nat.zero_add]
    exact own_row7 h i (upAt X i) (by rw [List.getElem?_append_left hi]; unfold upAt; rw [List.getElem?_eq_getElem hi]; rfl)
  · exact own_row7 h X.length ⟨-91, 0, 0, 0, .empty, .empty, 0⟩ (by simp) 0 _ rfl
  · exact own_row7 h (X.length + 1) ⟨-92, 0, 0, 0, .empty, .empty, 0⟩ (by simp) 0 _ rfl
set_option maxRecDepth 20000 in
set_option maxHeartbeats 4000000 in
theorem streams_walk (a : Option Addr) (n cap : Nat) (X : List Upd) (w : World) (h : Upds w a n X) (hao : a = none → cap = 0) (hn : n ≤ 1048576) :
    Calls Try.prog 5 #[.slice a n cap] w fun e w' => e = .returned (.bool true) ∧ Below w.heap.size w w' := by
  obtain rfl : n = X.length := h.1.symm
  obtain ⟨n, hnn⟩ : ∃ n, n = X.length := ⟨_, rfl⟩
  rw [← hnn] at h hn ⊢
  have HX : Hid (Upds w a n X ∧ (a = none → cap = 0) ∧ n ≤ 1048576 ∧ n = X.length) := ⟨h, hao, hn, hnn⟩
  obtain ⟨Z, hZ⟩ : ∃ Z, Z = stZ X n := ⟨_, rfl⟩
  obtain ⟨L, hL⟩ : ∃ L, L = Z.length := ⟨_, rfl⟩
  obtain ⟨E, hE⟩ : ∃ E, E = stE X n := ⟨_, rfl⟩
  have HP : Hid (∀ a c W, Upds W a n X → Calls Try.prog 15 #[.slice a n c] W fun r w' => ∃ va vc, r = .returned (.tuple #[.slice va L vc, .int .i64 E]) ∧ Own W.heap.size w' (.slice va L vc) L Z ∧ W.grownBy w' none) := fun a c W hu => by
    have := stream_c a n c X W hu (by omega)
    rw [← hZ, ← hL, ← hE] at this
    exact this.mono fun r w' ⟨va, vc, h1, h2, h3⟩ => ⟨va, vc, h1, h2, below_gb h3⟩
  have HG : Hid (∀ a c W, Upds W a n X → Calls Try.prog 16 #[.slice a n c] W fun r w' => ∃ va vc, r = .returned (.tuple #[.slice va L vc, .int .i64 E]) ∧ Own W.heap.size w' (.slice va L vc) L Z ∧ W.grownBy w' none) := fun a c W hu => by
    have := gstream_c a n c X W hu (by omega)
    rw [← hZ, ← hL, ← hE] at this
    exact this.mono fun r w' ⟨va, vc, h1, h2, h3⟩ => ⟨va, vc, h1, h2, below_gb h3⟩
  have HA : Hid (∀ W, w.grownBy W none → Calls Try.prog 17 #[.slice a n cap] W fun r w' => ∃ pa pc, r = .returned (.slice pa n pc) ∧ Upds w' pa n X ∧ W.grownBy w' none) := fun W hg => by
    refine (plainAll_c a n cap X W (h.below (gb_below hg)) (by omega)).mono ?_
    rintro r w' ⟨v, rfl, h1, h2⟩
    obtain ⟨pa, pc, rfl, h3⟩ := own_upds h1
    rw [← hnn] at h3 ⊢
    exact ⟨pa, pc, rfl, h3, below_gb h2⟩
  have HS : Hid (∀ a a' c c' W, Upds W a n X → Upds W a' n X → Calls Try.prog 18 #[.slice a n c, .slice a' n c'] W fun r w' => r = .returned (.bool true) ∧ W.grownBy w' none) := fun a a' c c' W h1 h2 => sameU_c a a' n c c' X W h1 h2 (by omega)
  have HM : Hid (∀ (x : Int) W, Calls Try.prog 12 #[.int .i64 x] W fun r w' => r = .returned (.int .i64 x) ∧ w' = W) := fun x W => by
    go_enter Try.func12, Try.ntmps12
    go_wp2
    go_ret
    exact ⟨rfl, rfl⟩
  have hwr : wrap64 ((n : Int) + 1) = ((n + 1 : Nat) : Int) := by simp [wrap64]; omega
  clear h hao hZ hL hE hnn
  go_enter Try.func5, Try.ntmps5
  go_wp2_with (first
    | ((fail_if_success (have z := H1)); at_builtin; go_must (refine wpList_all rfl _ (.tmp 12) rfl X a n cap rfl rfl HX.out.2.1 HX.out.1 (by have := HX.out.2.2.1; omega) ?_); intro v1 w1 ho hg; have H1 : Hid (UOwn w.heap.size w1 v1 X ∧ w.grownBy w1 none) := ⟨ho, hg⟩; clear ho hg)
    | ((fail_if_success (have z := H2)); have z := H1; clear z; at_builtin; go_must (refine wpList_two rfl (.tmp 13) (.tmp 16) rfl w.heap.size v1 X ⟨-91, 0, 0, 0, .empty, .empty, 0⟩ ⟨-92, 0, 0, 0, .empty, .empty, 0⟩ rfl H1.out.1 rfl (by have := HX.out.2.2; omega) H1.out.2.size ?_); intro g fc w2 ho hg hc1 hc2; have H2 : Hid (SS w w2 g n X) := (by have := ss_of (below_gb ((gb_below H1.out.2).trans ((Below.refl _ _).grown hg H1.out.2.size (fun k hk => H1.out.1.lo k hk)))) ho; rw [← HX.out.2.2.2] at this; exact this); rw [← HX.out.2.2.2] at hc1 ⊢; have hnc : n ≤ fc := (by omega); clear ho hg hc1 hc2)
    | ((fail_if_success (have z := H3)); have z := H2; clear z; go_at_call 15; go_must (refine (Calls.mono (HP.out _ _ _ H2.out.2.1) ?_)); rintro r w3 ⟨va, vc, rfl, h1, h2⟩; have H3 : Hid (SS w w3 g n X ∧ Own w.heap.size w3 (.slice va L vc) L Z) := ⟨H2.out.later h2, own_low h1 H2.out.1.size⟩; clear h1 h2)
    | ((fail_if_success (have z := H4)); have z := H3; clear z; go_at_call 17; go_must (refine (Calls.mono (HA.out _ H3.out.1.1) ?_)); rintro r w4 ⟨pa, pc, rfl, h1, h2⟩; have H4 : Hid (SS w w4 g n X ∧ Own w.heap.size w4 (.slice va L vc) L Z ∧ Upds w4 pa n X) := ⟨H3.out.1.later h2, own_keep H3.out.2 h2, h1⟩; clear h1 h2)
    | ((fail_if_success (have z := H5)); have z := H4; clear z; go_at_call 16; go_must (refine (Calls.mono (HG.out _ _ _ H4.out.2.2) ?_)); rintro r w5 ⟨vb, vd, rfl, h1, h2⟩; have H5 : Hid (SS w w5 g n X ∧ Own w.heap.size w5 (.slice va L vc) L Z ∧ Own w.heap.size w5 (.slice vb L vd) L Z) := ⟨H4.out.1.later h2, own_keep H4.out.2.1 h2, own_low h1 H4.out.1.1.size⟩; clear h1 h2)
    | ((fail_if_success (have z := H6)); have z := H5; clear z; go_at_call 15; go_must (refine (Calls.mono (lit1_c _) ?_)); rintro r w6 ⟨ve, vf, rfl, h2⟩; have H6 : Hid (SS w w6 g n X ∧ Own w.heap.size w6 (.slice va L vc) L Z ∧ Own w.heap.size w6 (.slice vb L vd) L Z) := ⟨H5.out.1.later h2, own_keep H5.out.2.1 h2, own_keep H5.out.2.2 h2⟩; clear h2)
    | ((fail_if_success (have z := H7)); have z := H6; clear z; go_at_call 17; go_must (refine (Calls.mono (HA.out _ H6.out.1.1) ?_)); rintro r w7 ⟨qa, qc, rfl, h1, h2⟩; have H7 : Hid (SS w w7 g n X ∧ Own w.heap.size w7 (.slice va L vc) L Z ∧ Own w.heap.size w7 (.slice vb L vd) L Z ∧ Upds w7 qa n X) := ⟨H6.out.1.later h2, own_keep H6.out.2.1 h2, own_keep H6.out.2.2 h2, h1⟩; clear h1 h2)
    | ((fail_if_success (have z := H8)); have z := H7; clear z; go_at_call 18; go_must (refine (Calls.mono (HS.out _ _ _ _ _ H7.out.1.2.1 H7.out.2.2.2) ?_)); rintro r w8 ⟨rfl, h2⟩; have H8 : Hid (SS w w8 g n X) := H7.out.1.later h2; have s1 := str_ownD (own_keep H7.out.2.1 h2); have s2 := str_ownD (own_keep H7.out.2.2.1 h2); have d1 := H8.out.2.2.2.1; have d2 := H8.out.2.2.2.2; generalize strOfNums Z = S at s1 s2; clear h2)
    | (go_at_call 12; go_must (refine (Calls.mono (HM.out _ _) ?_)); rintro e wq ⟨rfl, hq⟩; obtain rfl := hq.symm))
  go_ret
  exact ⟨rfl, gb_below H8.out.1⟩
end Go.Proofs.Ytmpedbddbknndaa.Dl
