/-
  The law of Stream: delta's Stream answers the document's bytes and error. Condition: at most 2^20 updates.
-/
import Derived.Test.YtmekcjonpmkoeaaDFm
namespace Go.Proofs.Ytmekcjonpmkoeaa.Dl
open Go.RowKit
set_option linter.unusedVariables false
def lit1 : Upd := ⟨1, 1, 1, 2, { data := #[97] }, .empty, 0⟩
theorem lit1_err : lit1.err = 0 := by decide +kernel
theorem lit1_bytes : lit1.bytes = [1, 1, 1, 2, 1, 97] := by
  unfold Upd.bytes updB updA lit1
  have e1 : enc 1 = [1] := enc_small (by omega)
  have e2 : enc 2 = [2] := enc_small (by omega)
  have z : ByteArray.size { data := #[97] } = 1 := rfl
  simp [e1, e2, z, sb]
theorem lit1_st : stE [lit1] 1 = 0 ∧ (stZ [lit1] 1).length = 7 := by
  have e : stE [lit1] 1 = 0 := by
    show (if stE [lit1] 0 ≠ 0 then stE [lit1] 0 else (upAt [lit1] 0).err) = 0
    rw [if_neg (by simp [stE])]
    exact lit1_err
  refine ⟨e, ?_⟩
  unfold stZ
  rw [if_pos e]
  show ([] ++ one lit1).length = 7
  unfold one
  rw [lit1_bytes]
  have e1 : enc ([1, 1, 1, 2, 1, 97] : List Int).length = [6] := enc_small (by simp)
  rw [e1]
  rfl
theorem lit1_upds (w : World) : Upds (w.alloc (.cells #[.int .i64 1, .int .i64 1, .int .i64 1, .int .i64 2, .string { data := #[97] }, .string .empty, .int .i64 0] 33)) (some ⟨w.heap.size, 0, none⟩) 1 [lit1] := by
  refine ⟨rfl, .inr ⟨w.heap.size, 0, rfl, by simp, fun i hi => ?_⟩⟩
  obtain rfl : i = 0 := by omega
  intro j v hv
  rw [Nat.zero_mul, Nat.add_zero, Nat.zero_add, cell_of_row _ _ j _ _ _ (heap_new w _)]
  have : upAt [lit1] 0 = lit1 := rfl
  rw [this] at hv
  simpa [Upd.cells, lit1] using hv
theorem lit1_c (w : World) : Calls Try.prog 22 #[.slice (some ⟨w.heap.size, 0, none⟩) 1 1] (w.alloc (.cells #[.int .i64 1, .int .i64 1, .int .i64 1, .int .i64 2, .string { data := #[97] }, .string .empty, .int .i64 0] 33)) fun r w' => ∃ va vc, r = .returned (.tuple #[.slice va 7 vc, .int .i64 0]) ∧ w.grownBy w' none := by
  have h := stream_c _ 1 1 [lit1] _ (lit1_upds w) (by omega)
  rw [lit1_st.1, lit1_st.2] at h
  refine h.mono ?_
  rintro r w' ⟨va, vc, h1, _, h2⟩
  exact ⟨va, vc, h1, gb_trans (gb_alloc _ _) (below_gb h2)⟩
/-- Where the law's own list lies. -/
def SS (w W : World) (g n : Nat) (X : List Upd) : Prop := w.grownBy W none ∧ Upds W (some ⟨g, 0, none⟩) n X ∧ g < W.heap.size ∧ W.cell? ⟨g, n * 7, none⟩ = some (.int .i64 (-91)) ∧ W.cell? ⟨g, (n + 1) * 7, none⟩ = some (.int .i64 (-92))
theorem SS.later {w W W' : World} {g n : Nat} {X : List Upd} (h : SS w W g n X) (hg : W.grownBy W' none) : SS w W' g n X :=
  ⟨gb_trans h.1 hg, h.2.1.below (gb_below hg), Nat.lt_of_lt_of_le h.2.2.1 hg.size, ((gb_below hg).cell (p := ⟨g, n * 7, none⟩) h.2.2.1).trans h.2.2.2.1, ((gb_below hg).cell (p := ⟨g, (n + 1) * 7, none⟩) h.2.2.1).trans h.2.2.2.2⟩
theorem ss_of {B : Nat} {w W : World} {g fc : Nat} {X : List Upd} (hg : w.grownBy W none) (h : UOwn B W (.slice (some ⟨g, 0, none⟩) (X.length + 2) fc) (X ++ [⟨-91, 0, 0, 0, .empty, .empty, 0⟩, ⟨-92, 0, 0, 0, .empty, .empty, 0⟩])) : SS w W g X.length X := by
  have e : (X ++ [(⟨-91, 0, 0, 0, .empty, .empty, 0⟩ : Upd), ⟨-92, 0, 0, 0, .empty, .empty, 0⟩]).length = X.length + 2 := by simp
  unfold UOwn at h
  rw [e] at h
  have hlt : g < W.heap.size := by
    rcases h.2 with ⟨q, _⟩ | ⟨g', cap', cur, q, _, hb, _⟩
    · cases q
    · cases q; exact lt_of_block hb
  refine ⟨hg, ⟨rfl, .inr ⟨g, 0, rfl, hlt, fun i hi => ?_⟩⟩, hlt, ?_, ?_⟩
  · rw [Nat.zero_add]
    exact own_row7 h i (upAt X i) (by rw [List.getElem?_append_left hi]; unfold upAt; rw [List.getElem?_eq_getElem hi]; rfl)
  · exact own_row7 h X.length ⟨-91, 0, 0, 0, .empty, .empty, 0⟩ (by simp) 0 _ rfl
  · exact own_row7 h (X.length + 1) ⟨-92, 0, 0, 0, .empty, .empty, 0⟩ (by simp) 0 _ rfl
set_option maxRecDepth 20000 in
set_option maxHeartbeats 4000000 in
theorem streams_walk (a : Option Addr) (n cap : Nat) (X : List Upd) (w : World) (h : Upds w a n X) (hao : a = none → cap = 0) (hn : n ≤ 1048576) :
    Calls Try.prog 7 #[.slice a n cap] w fun e w' => e = .returned (.bool true) ∧ Below w.heap.size w w' := by
  obtain rfl : n = X.length := h.1.symm
  obtain ⟨n, hnn⟩ : ∃ n, n = X.length := ⟨_, rfl⟩
  rw [← hnn] at h hn ⊢
  have HX : Hid (Upds w a n X ∧ (a = none → cap = 0) ∧ n ≤ 1048576 ∧ n = X.length) := ⟨h, hao, hn, hnn⟩
  obtain ⟨Z, hZ⟩ : ∃ Z, Z = stZ X n := ⟨_, rfl⟩
  obtain ⟨L, hL⟩ : ∃ L, L = Z.length := ⟨_, rfl⟩
  obtain ⟨E, hE⟩ : ∃ E, E = stE X n := ⟨_, rfl⟩
  have HP : Hid (∀ a c W, Upds W a n X → Calls Try.prog 22 #[.slice a n c] W fun r w' => ∃ va vc, r = .returned (.tuple #[.slice va L vc, .int .i64 E]) ∧ Own W.heap.size w' (.slice va L vc) L Z ∧ W.grownBy w' none) := fun a c W hu => by
    have := stream_c a n c X W hu hn
    rw [← hZ, ← hL, ← hE] at this
    exact this.mono fun r w' ⟨va, vc, h1, h2, h3⟩ => ⟨va, vc, h1, h2, below_gb h3⟩
  have HG : Hid (∀ a c W, Upds W a n X → Calls Try.prog 23 #[.slice a n c] W fun r w' => ∃ va vc, r = .returned (.tuple #[.slice va L vc, .int .i64 E]) ∧ Own W.heap.size w' (.slice va L vc) L Z ∧ W.grownBy w' none) := fun a c W hu => by
    have := gstream_c a n c X W hu hn
    rw [← hZ, ← hL, ← hE] at this
    exact this.mono fun r w' ⟨va, vc, h1, h2, h3⟩ => ⟨va, vc, h1, h2, below_gb h3⟩
  have HA : Hid (∀ W, w.grownBy W none → Calls Try.prog 24 #[.slice a n cap] W fun r w' => ∃ pa pc, r = .returned (.slice pa n pc) ∧ Upds w' pa n X ∧ W.grownBy w' none) := fun W hg => by
    refine (plainAll_c a n cap X W (h.below (gb_below hg)) hn).mono ?_
    rintro r w' ⟨v, rfl, h1, h2⟩
    obtain ⟨pa, pc, rfl, h3⟩ := own_upds h1
    rw [← hnn] at h3 ⊢
    exact ⟨pa, pc, rfl, h3, below_gb h2⟩
  have HS : Hid (∀ a a' c c' W, Upds W a n X → Upds W a' n X → Calls Try.prog 25 #[.slice a n c, .slice a' n c'] W fun r w' => r = .returned (.bool true) ∧ W.grownBy w' none) := fun a a' c c' W h1 h2 => sameU_c a a' n c c' X W h1 h2 hn
  have HM : Hid (∀ (x : Int) W, Calls Try.prog 9 #[.int .i64 x] W fun r w' => r = .returned (.int .i64 x) ∧ w' = W) := fun x W => by
    go_enter Try.func9, Try.ntmps9
    go_wp2
    go_ret
    exact ⟨rfl, rfl⟩
  have hwr : wrap64 ((n : Int) + 1) = ((n + 1 : Nat) : Int) := by simp [wrap64]; omega
  clear h hao hZ hL hE hnn
  go_enter Try.func7, Try.ntmps7
  go_wp2_with (first
    | ((fail_if_success (have z := H1)); at_builtin; go_must (refine wpList_all rfl _ (.tmp 12) rfl X a n cap rfl rfl HX.out.2.1 HX.out.1 HX.out.2.2.1 ?_); intro v1 w1 ho hg; have H1 : Hid (UOwn w.heap.size w1 v1 X ∧ w.grownBy w1 none) := ⟨ho, hg⟩; clear ho hg)
    | ((fail_if_success (have z := H2)); have z := H1; clear z; at_builtin; go_must (refine wpList_two rfl (.tmp 13) (.tmp 16) rfl w.heap.size v1 X ⟨-91, 0, 0, 0, .empty, .empty, 0⟩ ⟨-92, 0, 0, 0, .empty, .empty, 0⟩ rfl H1.out.1 rfl (by have := HX.out.2.2; omega) H1.out.2.size ?_); intro g fc w2 ho hg hc1 hc2; have H2 : Hid (SS w w2 g n X) := (by have := ss_of (below_gb ((gb_below H1.out.2).trans ((Below.refl _ _).grown hg H1.out.2.size (fun k hk => H1.out.1.lo k hk)))) ho; rw [← HX.out.2.2.2] at this; exact this); rw [← HX.out.2.2.2] at hc1 ⊢; have hnc : n ≤ fc := (by omega); clear ho hg hc1 hc2)
    | ((fail_if_success (have z := H3)); have z := H2; clear z; go_at_call 22; go_must (refine (Calls.mono (HP.out _ _ _ H2.out.2.1) ?_)); rintro r w3 ⟨va, vc, rfl, h1, h2⟩; have H3 : Hid (SS w w3 g n X ∧ Own w.heap.size w3 (.slice va L vc) L Z) := ⟨H2.out.later h2, own_low h1 H2.out.1.size⟩; clear h1 h2)
    | ((fail_if_success (have z := H4)); have z := H3; clear z; go_at_call 24; go_must (refine (Calls.mono (HA.out _ H3.out.1.1) ?_)); rintro r w4 ⟨pa, pc, rfl, h1, h2⟩; have H4 : Hid (SS w w4 g n X ∧ Own w.heap.size w4 (.slice va L vc) L Z ∧ Upds w4 pa n X) := ⟨H3.out.1.later h2, own_keep H3.out.2 h2, h1⟩; clear h1 h2)
    | ((fail_if_success (have z := H5)); have z := H4; clear z; go_at_call 23; go_must (refine (Calls.mono (HG.out _ _ _ H4.out.2.2) ?_)); rintro r w5 ⟨vb, vd, rfl, h1, h2⟩; have H5 : Hid (SS w w5 g n X ∧ Own w.heap.size w5 (.slice va L vc) L Z ∧ Own w.heap.size w5 (.slice vb L vd) L Z) := ⟨H4.out.1.later h2, own_keep H4.out.2.1 h2, own_low h1 H4.out.1.1.size⟩; clear h1 h2)
    | ((fail_if_success (have z := H6)); have z := H5; clear z; go_at_call 22; go_must (refine (Calls.mono (lit1_c _) ?_)); rintro r w6 ⟨ve, vf, rfl, h2⟩; have H6 : Hid (SS w w6 g n X ∧ Own w.heap.size w6 (.slice va L vc) L Z ∧ Own w.heap.size w6 (.slice vb L vd) L Z) := ⟨H5.out.1.later h2, own_keep H5.out.2.1 h2, own_keep H5.out.2.2 h2⟩; clear h2)
    | ((fail_if_success (have z := H7)); have z := H6; clear z; go_at_call 24; go_must (refine (Calls.mono (HA.out _ H6.out.1.1) ?_)); rintro r w7 ⟨qa, qc, rfl, h1, h2⟩; have H7 : Hid (SS w w7 g n X ∧ Own w.heap.size w7 (.slice va L vc) L Z ∧ Own w.heap.size w7 (.slice vb L vd) L Z ∧ Upds w7 qa n X) := ⟨H6.out.1.later h2, own_keep H6.out.2.1 h2, own_keep H6.out.2.2 h2, h1⟩; clear h1 h2)
    | ((fail_if_success (have z := H8)); have z := H7; clear z; go_at_call 25; go_must (refine (Calls.mono (HS.out _ _ _ _ _ H7.out.1.2.1 H7.out.2.2.2) ?_)); rintro r w8 ⟨rfl, h2⟩; have H8 : Hid (SS w w8 g n X) := H7.out.1.later h2; have s1 := str_ownD (own_keep H7.out.2.1 h2); have s2 := str_ownD (own_keep H7.out.2.2.1 h2); have d1 := H8.out.2.2.2.1; have d2 := H8.out.2.2.2.2; generalize strOfNums Z = S at s1 s2; clear h2)
    | (go_at_call 9; go_must (refine (Calls.mono (HM.out _ _) ?_)); rintro e wq ⟨rfl, hq⟩; obtain rfl := hq.symm))
  go_ret
  exact ⟨rfl, gb_below H8.out.1⟩
end Go.Proofs.Ytmekcjonpmkoeaa.Dl
