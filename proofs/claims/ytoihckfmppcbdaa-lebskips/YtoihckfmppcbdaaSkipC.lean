/-
  What leb.Skip answers of whatever bytes and whatever number: what the plain function skp gives. Condition: the slice can be read, and its length is one that a machine has.
-/
import Derived.Test.YtoihckfmppcbdaaIter
import Derived.Deep.Light
namespace Go.Proofs.Ytoihckfmppcbdaa
open Go.RowKit Go.Shelf
set_option linter.unusedVariables false
attribute [local go_sem] Oper.semAt_some

/-- The place behind so many numbers, and the error's number. -/
def skipped (xs : List Int) (N : Int) : Int × Int := if N < 0 then (0, 1) else skp xs N.toNat 0
theorem ret2 {k1 k2 : IntKind} {a b a' b' : Int} (h1 : a = a') (h2 : b = b') : Ending.returned (.tuple #[.int k1 a, .int k2 b]) = .returned (.tuple #[.int k1 a', .int k2 b']) := by rw [h1, h2]

theorem block_kept {W W' : World} {row : Option Nat} {B : Nat} {c : Array Value} {T : TypeId} {fr : Nat × Nat} (h : W.heap[B]? = some (.cells c T fr)) (hg : W.grownBy W' row) (hr : ∀ r, row = some r → ∃ o : Obj, W.heap[r]? = some o ∧ o.isCells = false) : W'.heap[B]? = some (.cells c T fr) :=
  (hg.block B (lt_of_block h) (fun e => by obtain ⟨o, ho, hc⟩ := hr B e.symm; rw [h] at ho; cases ho; simp [Obj.isCells] at hc)).trans h
theorem keep_b {n₀ Bs : Nat} {w : World} (hn : n₀ ≤ w.heap.size) (hBs : Bs < w.heap.size) (W : World) (l : Nat) (o o' : Obj) (hl : w.heap.size ≤ l) (h : W.heap[l]? = some o) (h1 : o.isCells = false) (h2 : o.isWalk = false) : Keep n₀ Bs W (W.putObj l o') :=
  ⟨belowK_b hn W l o o' hl h h1 h2, World.putObj_heap_other (by omega)⟩
theorem one64 (a : Int) (h : 0 ≤ a ∧ a < 18446744073709551616) : Bits64 [a] := fun i hi => by
  simp at hi; subst hi; simpa using h
theorem szs_one (a : Int) : szs [a] = sz a := by simp [szs]
/-- One variable in a block of its own. -/
def Var (W : World) (B : Nat) (x : Int) : Prop := W.heap[B]? = some (.cells #[.int .i64 x] 3 (0, 0))
theorem Var.cell {W : World} {B : Nat} {x : Int} (h : Var W B x) : W.cell? ⟨B, 0, none⟩ = some (.int .i64 x) := by rw [cell_of_row W B 0 _ _ _ h]; rfl
theorem Var.free {W : World} {B : Nat} {x : Int} (h : Var W B x) : W.frozen? ⟨B, 0, none⟩ = false := frozen_of_row W B 0 _ _ h
theorem Var.set {W : World} {B : Nat} {x : Int} (h : Var W B x) (y : Int) : Var (W.setCell ⟨B, 0, none⟩ (.int .i64 y)) B y := by
  unfold Var; rw [heap_setCell_same W B 0 _ _ _ h]; rfl
theorem Var.other {W : World} {B C : Nat} {x : Int} (h : Var W B x) (hn : B ≠ C) (u : Value) : Var (W.setCell ⟨C, 0, none⟩ u) B x := (Below.heap_setCell W ⟨C, 0, none⟩ u B hn).trans h
theorem Var.alloc {W : World} {B : Nat} {x : Int} (h : Var W B x) (o : Obj) : Var (W.alloc o) B x := (Below.heap_alloc W o B (lt_of_block h)).trans h
theorem Var.kept {W W' : World} {row : Option Nat} {B : Nat} {x : Int} (h : Var W B x) (hg : W.grownBy W' row) (hr : ∀ r, row = some r → ∃ o : Obj, W.heap[r]? = some o ∧ o.isCells = false) : Var W' B x := block_kept h hg hr

set_option maxRecDepth 100000 in
set_option maxHeartbeats 1000000 in
theorem skip_in (a : Option Addr) (len cap : Nat) (xs : List Int) (N : Nat) (w : World) (hs : Seg .u8 w a len xs) (hx : Bytes xs) (hl : len ≤ 140737488355328) (hcap : len ≤ cap) (hcm : cap ≤ 9223372036854775807) (hN : (N : Int) ≤ 9223372036854775807) :
    CallsIn Fence.wide 5 Try.prog 8 #[.slice a len cap, .int .i64 N] w fun e w' => e = .returned (.tuple #[.int .i64 (skp xs N 0).1, .int .i64 (skp xs N 0).2]) ∧ Below w.heap.size w w' := by
  refine callsIn_of_wp_marks Try.func8 rfl trivial ?_ rfl
  simp only [Try.ntmps8, List.size_toArray, List.length_cons, List.length_nil, Nat.reduceAdd, Nat.reduceSub, Array.replicate_succ, Array.replicate_zero, List.push_toArray, List.append_toArray, List.nil_append, List.cons_append]
  gi_wp2
  refine ⟨trivial, ?_⟩
  refine (walk_in _ _ _ _ _).mono ?_
  rintro e w' ⟨rfl, rfl⟩
  obtain ⟨B, hB⟩ : ∃ B, B = w.heap.size := ⟨_, rfl⟩
  obtain ⟨W0, hW0⟩ : ∃ W0, ((w.alloc (.cells #[.int .i64 0] 3)).alloc (.cells #[.int .i64 (N : Int)] 3)).alloc (.cells #[.slice a len cap] 22) = W0 := ⟨_, rfl⟩
  have hz0 : W0.heap.size = B + 3 := by rw [← hW0, hB]; simp
  have hBel : Below w.heap.size w W0 := by rw [← hW0]; exact (((Below.refl _ w).alloc (Nat.le_refl _) _).alloc (by simp) _).alloc (by simp; omega) _
  have v1 : Var W0 B 0 := by
    rw [← hW0, hB]
    exact Var.alloc (Var.alloc (show Var (w.alloc _) _ _ from World.alloc_heap_new w _) _) _
  have v2 : Var W0 (B + 1) N := by
    rw [← hW0, hB]
    exact Var.alloc (show Var (World.alloc _ _) _ _ from by have := World.alloc_heap_new (w.alloc (.cells #[.int .i64 0] 3)) (.cells #[.int .i64 (N : Int)] 3); rw [World.size_alloc] at this; exact this) _
  have hbx : W0.cell? ⟨B + 2, 0, none⟩ = some (.slice a len cap) := by
    rw [← hW0, hB]
    have := World.cell?_alloc_new ((w.alloc (.cells #[.int .i64 0] 3)).alloc (.cells #[.int .i64 (N : Int)] 3)) #[.slice a len cap] 22 0
    simpa using this
  rw [hW0]
  have eB : w.heap.size = B := hB.symm
  rw [World.size_alloc, World.size_alloc, eB]
  have HB0 : Hid (B = w.heap.size) := hB
  have HBel : Hid (Below w.heap.size w W0) := hBel
  have HV1 : Hid (Var W0 B 0) := v1
  have HV2 : Hid (Var W0 (B + 1) N) := v2
  clear hW0 hB eB hBel v1 v2
  gi_wp2
  refine wpIn_rangeFunc_ownF rfl (by omega) (gf := 22) (lb := #[.pointer (some ⟨B + 1 + 1, 0, none⟩)]) rfl trivial (enters_of Try.func22 (by kernel_rfl) rfl)
    (walk_stops 4 (by omega) (B + 1 + 1) B a len cap xs hx hl hcap hcm w W0 hs HBel.out (by rw [HB0.out]; exact Nat.le_refl _) (by omega) (by omega) hbx) Keep.trans (keep_b (by omega) (by omega)) (Below.refl _ _) (fun _ => rfl)
    (fun pre W => (Var W B (endOf (pre.map Subtype.val)) ∧ Var W (B + 1) ((N : Int) - (pre.length : Int)) ∧ pre.length ≤ N ∧ B + 3 ≤ W.heap.size) ∧ Below w.heap.size w W)
    (fun c p W => (c = .exit 0 ∧ ∃ pre x, p = pre ++ [x] ∧ pre.length = N ∧ Var W B (endOf (pre.map Subtype.val)) ∧ Var W (B + 1) 0) ∧ Below w.heap.size w W)
    (OwnFrom.and (Own.from (fun s A B' row hs hg hr => ⟨hs.1.kept hg hr, hs.2.1.kept hg hr, hs.2.2.1, Nat.le_trans hs.2.2.2 hg.size⟩) _) (ownFrom_below (Nat.le_refl _) (by have := HB0.out; omega)))
    (fun c => OwnFrom.and (Own.from (fun s A B' row hs hg hr => by
      obtain ⟨h1, pre, x, h2, h3, h4, h5⟩ := hs
      exact ⟨h1, pre, x, h2, h3, h4.kept hg hr, h5.kept hg hr⟩) _) (ownFrom_below (Nat.le_refl _) (by have := HB0.out; omega)))
    ⟨⟨HV1.out, by simpa using HV2.out, Nat.zero_le _, by omega⟩, HBel.out⟩
    (fun x => { tmps := #[.slice a len cap, .int .i64 N, undef, undef, .int .i64 0, .int .i64 0, .pointer (some ⟨B, 0, none⟩), .pointer (some ⟨B + 1, 0, none⟩), .int .i64 x.1.1, .int .u64 x.1.2, undef, undef, undef, .int .i64 N, .bool (decide ((N : Int) < 0)), .int .i64 N, .slice a len cap, .func (.func 22) #[] #[.pointer (some ⟨B + 1 + 1, 0, none⟩)], .int .i64 x.1.1, .int .u64 x.1.2, undef, undef, undef, undef, undef, undef, undef, undef, undef, undef, undef, undef, undef, undef, undef, undef, undef, undef, undef, undef, undef], defers := [] }) ?assign ?body ?done ?stop
  case assign =>
    intro l x W K hK
    dsimp only [pairs]
    gi_wp2
    exact hK
  case body =>
    rintro l pre x W ⟨⟨v1, v2, hle, hW3⟩, hB⟩ _
    have c1 := v1.cell
    have f1 := v1.free
    have c2 := v2.cell
    have f2 := v2.free
    obtain ⟨⟨p, v⟩, ⟨hp0, hp1⟩, hv⟩ := x
    simp only at hp0 hp1 hv
    by_cases h0 : pre.length = N
    · have hb : (((N : Int) - (pre.length : Int)) == 0) = true := by simp; omega
      have H0 : Hid (pre.length = N) := h0
      have V1 : Hid (Var W B (endOf (pre.map Subtype.val))) := v1
      have V2 : Hid (Var W (B + 1) 0) := by have := v2; rw [h0, Int.sub_self] at this; exact this
      clear h0 v1 v2
      gi_wp2
      exact ⟨KeepsOthers.refl _, ⟨rfl, pre, _, rfl, H0.out, V1.out, V2.out⟩, hB⟩
    · have hb : (((N : Int) - (pre.length : Int)) == 0) = false := by simp; omega
      have V1 : Hid (Var W B (endOf (pre.map Subtype.val))) := v1
      have V2 : Hid (Var W (B + 1) ((N : Int) - (pre.length : Int))) := v2
      have hl1 := lt_of_block v1
      have hl2 := lt_of_block v2
      have hsz := sz_bd v
      have HV : Hid (Bits64 [v]) := one64 v hv
      clear v1 v2
      gi_wp2
      refine ⟨trivial, ?_⟩
      refine (CallsIn.inRound l (callsIn_wide.2 (size_c _ 1 1 [v] _ (seg_new _ _ _ _ _ _ rfl rfl) HV.out (by omega)))).mono ?_
      rintro e w2 ⟨rfl, hw⟩
      subst hw
      rw [szs_one]
      gi_wp2
      refine ⟨((KeepsOthers.setCell W _ _).trans (KeepsOthers.setCell _ _ _)).trans (KeepsOthers.alloc _ _), ⟨(((Below.refl B W).setCell (p := ⟨B, 0, none⟩) (Nat.le_refl _) _).setCell (p := ⟨B + 1, 0, none⟩) (Nat.le_succ _) _).alloc (by simp; omega) _, ?_⟩, ⟨?_, ?_, ?_, ?_⟩, ?_⟩
      · rw [Below.heap_alloc _ _ _ (by simp; omega), Below.heap_setCell _ _ _ _ (by simp), Below.heap_setCell _ _ _ _ (by simp; omega)]
      · rw [List.map_append, List.map_singleton, endOf_snoc]
        exact ((V1.out.set _).other (by omega) _).alloc _
      · rw [show (N : Int) - ((pre ++ [⟨(p, v), ⟨hp0, hp1⟩, hv⟩] : List Pair).length : Int) = (N : Int) - (pre.length : Int) - 1 from by simp; omega]
        exact ((V2.out.other (by omega) _).set _).alloc _
      · simp; omega
      · simp; omega
      · exact ((hB.setCell (p := ⟨B, 0, none⟩) (by rw [HB0.out]; exact Nat.le_refl _) _).setCell (p := ⟨B + 1, 0, none⟩) (by have := HB0.out; simp only; omega) _).alloc (by have := HB0.out; simp; omega) _
  case done =>
    rintro D ys W hD hys ⟨⟨v1, v2, hle, hW3⟩, hB⟩ hK
    obtain ⟨E, hE, heE, hsk, hne, hsk2⟩ := skp_all hx (ys.map Subtype.val) hys.symm 0
    rw [heE] at v1
    rw [List.length_map] at hsk hsk2
    have c1 := v1.cell
    have c2 := v2.cell
    have HD : Hid (B + 3 ≤ D) := by show _ ≤ _; omega
    have HK : Hid (Below w.heap.size w (W.putObj D (.deferred none))) := hB.trans (belowK_b (w := w) (Nat.le_refl _) W D _ _ (by have := HB0.out; have := HD.out; omega) hK rfl rfl)
    rw [hs.1] at hE
    by_cases h0 : ys.length = N
    · have hb : (((N : Int) - (ys.length : Int)) == 0) = true := by simp; omega
      have HE : Hid (skp xs N 0 = ((E : Int), 0)) := by show _ = _; rw [← h0]; exact hsk
      clear v1 v2 hys heE hsk hne hsk2 hD h0
      gi_wp2
      refine ⟨by simp, .inl ⟨_, _, rfl, run_takeDeferred hK, ?_⟩⟩
      exact ⟨_, results_tmp2 rfl _ _ _, by rw [HE.out]; rfl, HK.out⟩
    · have hb : (((N : Int) - (ys.length : Int)) == 0) = false := by simp; omega
      obtain ⟨k, hk⟩ : ∃ k, N = ys.length + (k + 1) := ⟨N - ys.length - 1, by omega⟩
      have HE : Hid (skp xs N 0 = (0, (rd (xs.drop E)).2.2)) := by show _ = _; rw [hk]; exact hsk2 k
      have HS : Hid (Seg .u8 W a len xs) := hs.below hB
      clear v1 v2 hys heE hsk hne hsk2 hD h0 hk
      by_cases hce : cap = E
      · have HCE : Hid (len ≤ E) := by show _ ≤ _; omega
        subst hce
        gi_wp2
        refine ⟨trivial, ?_⟩
        refine (callsIn_wide.2 (decode_c a 0 0 (xs.drop cap) W ⟨by rw [List.length_drop, hs.1]; have := HCE.out; omega, .inl rfl⟩ (bytes_drop hx cap) (by omega) (by omega))).mono ?_
        rintro e w2 ⟨rfl, hw⟩
        subst hw
        gi_wp2
        refine ⟨by simp, .inl ⟨_, _, rfl, run_takeDeferred hK, ?_⟩⟩
        exact ⟨_, results_tmp2 rfl _ _ _, by rw [HE.out]; rfl, HK.out⟩
      · gi_wp2
        refine ⟨trivial, ?_⟩
        refine (callsIn_wide.2 (decode_c _ _ _ (xs.drop E) W (seg_from HS.out E) (bytes_drop hx E) (by omega) (by omega))).mono ?_
        rintro e w2 ⟨rfl, hw⟩
        subst hw
        gi_wp2
        refine ⟨by simp, .inl ⟨_, _, rfl, run_takeDeferred hK, ?_⟩⟩
        exact ⟨_, results_tmp2 rfl _ _ _, by rw [HE.out]; rfl, HK.out⟩
  case stop =>
    rintro D c pre W hD hpre ⟨⟨rfl, pre', x, rfl, hlen, v1, v2⟩, hB⟩ hK
    have c1 := v1.cell
    have c2 := v2.cell
    have HD : Hid (B + 3 ≤ D) := by show _ ≤ _; omega
    have HK : Hid (Below w.heap.size w (W.putObj D (.deferred none))) := hB.trans (belowK_b (w := w) (Nat.le_refl _) W D _ _ (by have := HB0.out; have := HD.out; omega) hK rfl rfl)
    have HE : Hid (skp xs N 0 = (endOf (pre'.map Subtype.val), 0)) := by
      show _ = _
      obtain ⟨rest, hr⟩ := hpre
      have := skp_part hx (pre'.map Subtype.val) ([x.1] ++ rest) (by rw [← hr]; simp)
      rw [List.length_map, hlen] at this
      exact this
    clear v1 v2 hlen hpre hD
    gi_wp2
    refine ⟨by simp, .inl ⟨_, _, rfl, run_takeDeferred hK, ?_⟩⟩
    exact ⟨_, results_tmp2 rfl _ _ _, by rw [HE.out]; rfl, HK.out⟩

theorem skip_c (a : Option Addr) (len cap : Nat) (xs : List Int) (N : Int) (w : World) (hs : Seg .u8 w a len xs) (hx : Bytes xs) (hl : len ≤ 140737488355328) (hcap : len ≤ cap) (hcm : cap ≤ 9223372036854775807) (hN : N ≤ 9223372036854775807) :
    Calls Try.prog 8 #[.slice a len cap, .int .i64 N] w fun e w' => e = .returned (.tuple #[.int .i64 (skipped xs N).1, .int .i64 (skipped xs N).2]) ∧ Below w.heap.size w w' := by
  by_cases h : N < 0
  · have hsk : Hid (skipped xs N = (0, 1)) := if_pos h
    go_enter Try.func8, Try.ntmps8
    go_wp2
    go_ret2
    exact ⟨by rw [hsk.out]; rfl, Below.refl _ _⟩
  · have e : skipped xs N = skp xs N.toNat 0 := if_neg h
    rw [e]
    have := skip_in a len cap xs N.toNat w hs hx hl hcap hcm (by omega)
    rw [Int.toNat_of_nonneg (by omega)] at this
    exact callsIn_wide.1 this
end Go.Proofs.Ytoihckfmppcbdaa
