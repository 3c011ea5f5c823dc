/-
  What stretch.sum and stretch.holds answer: the sum of some bytes, and whether they end with the sum of those ahead; they lay marks. Condition: the table of package crc lies in memory; at most 2^40 bytes.
-/
import Derived.Test.YtbfbehjldloeoaaDoorFAh
import Derived.Test.YtbfbehjldloeoaaDoorJoinC
import Derived.Lib.EndianBits
namespace Go.Proofs.YtbfbehjldloeoaaDoor
set_option linter.unusedVariables false
open Go.RowKit

/-- What stretch.sum leaves. -/
def StrA (O : Nat → Prop) (w : World) (T : Nat) (v : Value) (xs : List Int) (w' : World) : Prop := ∃ u' M', Str (fun b => O b ∨ w.heap.size ≤ b) w' T v u' xs M' ∧ Gr O w w'
theorem StrA.then {O : Nat → Prop} {w w1 w2 : World} {T : Nat} {v : Value} {xs : List Int} (h : Gr O w w1) (k : StrA (fun b => O b ∨ w.heap.size ≤ b) w1 T v xs w2) : StrA O w T v xs w2 := by
  obtain ⟨u, M, k1, k2⟩ := k
  have := h.size
  refine ⟨u, M, k1.weak (fun b _ hb => ?_) (fun b _ hn hb => hn (.inl hb)), h.then k2 (fun i hi z => z.elim id (fun q => by omega))⟩
  rcases hb with z | z
  · exact z
  · exact .inr (by omega)
set_option maxRecDepth 20000 in
set_option maxHeartbeats 2000000 in
theorem ssum_c (O : Nat → Prop) (T : Nat) (v u : Value) (xs : List Int) (M a e : Nat) (w : World) (h : Str O w T v u xs M) (ht : Tab w) (h0 : ¬ O 0) (hae : a ≤ e) (he : e ≤ xs.length) (hl : xs.length ≤ 1099511627776) :
    Calls Tryd.prog 41 #[.pointer (some ⟨T, 0, none⟩), .int .i64 (a : Int), .int .i64 (e : Int)] w fun r w' => r = .returned (.int .u32 (W (sum ((xs.take e).drop a)))) ∧ StrA O w T v xs w' := by
  obtain ⟨n, hn⟩ : ∃ n, n = xs.length := ⟨_, rfl⟩
  obtain ⟨d, hd⟩ : ∃ d, d = e - a := ⟨_, rfl⟩
  have hsub : (e : Int) - (a : Int) = (d : Int) := by omega
  have hsw : wrap64 (d : Int) = (d : Int) := IntWalk.wrap64_in _ ⟨by omega, by omega⟩
  have hsi : IntKind.i64.wrap (d : Int) = (d : Int) := IntWalk.i64_in _ ⟨by omega, by omega⟩
  obtain ⟨va, vc, rfl, _, _, hvc⟩ := h.ob.seg
  rw [← hn] at h hvc he hl ⊢
  have c0 : w.cell? ⟨T, 0, none⟩ = some (.slice va n vc) := h.bk.cell 0
  by_cases hd5 : d ≤ 512
  · have hc : (d : Int) ≤ 512 := by omega
    have hslc := slice_blh va n vc a e hae (by omega) w
    have hb0 := h.ob
    rw [← hn] at hb0
    have hcut := seg_cutB (own_segv hb0).1 a e hae he hvc
    have HS : Hid (∀ N, N = w.heap.size → Calls Tryd.prog 27 #[.slice (some ⟨N, 0, none⟩) 1 1] (w.alloc (.cells #[.slice (cutB va vc a) (e - a) (vc - a)] 22)) fun r w' => r = .returned (.int .u32 (W (sum ((xs.take e).drop a)))) ∧ w' = w.alloc (.cells #[.slice (cutB va vc a) (e - a) (vc - a)] 22)) := fun N hN => by
      have := sum_c (some ⟨N, 0, none⟩) 1 1 [(xs.take e).drop a] (w.alloc (.cells #[.slice (cutB va vc a) (e - a) (vc - a)] 22)) (segs_at N 22 hN hcut ((h.hx.take _).drop _) (by omega)) (ht.below ((Below.refl _ _).alloc (Nat.le_refl _) _)) (by decide)
      simpa using this
    have HE : Hid _ := h
    clear h ht h0 hn hb0 hcut hd
    go_enter Tryd.func41, Tryd.ntmps41
    go_wp2_with (go_at_call 27; go_must (refine (Calls.mono (HS.out _ rfl) ?_)); rintro r w1 ⟨rfl, rfl⟩)
    go_ret
    exact ⟨rfl, _, _, HE.out.more.gr (Gr.ofB (G := fun _ => False) ((Below.refl _ _).alloc (Nat.le_refl _) _)) (fun _ _ z => z), (Gr.refl _ _).alloc _⟩
  · have hc : ¬ ((d : Int) ≤ 512) := by omega
    have hd0 : ¬ ((d : Int) < 0) := by omega
    have HA := ahead_c O T (.slice va n vc) u xs M a w h ht h0 (by omega) (by omega)
    have HB : ∀ w1 u1 M1, Str (fun b => O b ∨ w.heap.size ≤ b) w1 T (.slice va n vc) u1 xs M1 → Gr O w w1 → Calls Tryd.prog 43 #[.pointer (some ⟨T, 0, none⟩), .int .i64 (e : Int)] w1 fun r w' => r = .returned (.int .u32 (W (sum (xs.take e)))) ∧ StrA O w T (.slice va n vc) xs w' := fun w1 u1 M1 k1 k2 => by
      have := ahead_c _ T (.slice va n vc) u1 xs M1 e w1 k1 (ht.gr k2 h0) (fun z => z.elim h0 (fun q => by have := ht.pos; omega)) (by omega) (by omega)
      exact this.mono (fun r w' ⟨q1, q2⟩ => ⟨q1, StrA.then k2 q2⟩)
    have HJ := fun w2 => join_c (sum (xs.take a)) (sum (xs.take e)) (d : Int) (by omega) (by omega) w2
    have hp := sum_part xs a e hae (by omega)
    rw [← hd] at hp
    rw [show (d : Int).toNat = d from by omega, ← hp] at HJ
    replace HA : Hid _ := HA
    replace HB : Hid _ := HB
    replace HJ : Hid _ := HJ
    clear h ht h0 hn hp c0 hd
    go_enter Tryd.func41, Tryd.ntmps41
    go_wp2_with (first
      | (have z := H2; clear z; go_at_call 42; go_must (refine (Calls.mono (HJ.out _) ?_)); rintro r w3 ⟨rfl, rfl⟩)
      | (have z := H1; clear z; go_at_call 43; go_must (refine (Calls.mono (HB.out _ _ _ H1.out.1 H1.out.2) ?_)); rintro r w2 ⟨rfl, h2⟩; have H2 : Hid _ := h2; clear h2)
      | (go_at_call 43; go_must (refine (Calls.mono HA.out ?_)); rintro r w1 ⟨rfl, u1, M1, h1, h2⟩; have H1 : Hid (_ ∧ _) := ⟨h1, h2⟩; clear h1 h2))
    go_ret
    exact ⟨rfl, H2.out⟩

theorem or4 (b0 b1 b2 b3 : Int) (h0 : 0 ≤ b0 ∧ b0 < 256) (h1 : 0 ≤ b1 ∧ b1 < 256) (h2 : 0 ≤ b2 ∧ b2 < 256) (h3 : 0 ≤ b3 ∧ b3 < 256) :
    bits .or .u32 (bits .or .u32 (bits .or .u32 b0 (b1 * 256)) (b2 * 65536)) (b3 * 16777216) = b0 + 256 * b1 + 65536 * b2 + 16777216 * b3 := by
  rw [u32_or8 (y := b0) (x := b1 * 256) h0.1 h0.2 (by omega) (by omega) (by omega), u32_or16 (y := b0 + b1 * 256) (x := b2 * 65536) (by omega) (by omega) (by omega) (by omega) (by omega), u32_or24 (y := b0 + b1 * 256 + b2 * 65536) (x := b3 * 16777216) (by omega) (by omega) (by omega) (by omega) (by omega)]
  omega
theorem holds_word (ys : List Int) (s : Wd) (b0 b1 b2 b3 : Int) (h0 : 0 ≤ b0 ∧ b0 < 256) (h1 : 0 ≤ b1 ∧ b1 < 256) (h2 : 0 ≤ b2 ∧ b2 < 256) (h3 : 0 ≤ b3 ∧ b3 < 256) (hs : s = sum (ys.take (ys.length - 4))) (h4 : 4 ≤ ys.length) (hd : ys.drop (ys.length - 4) = [b0, b1, b2, b3]) :
    (W s == b0 + 256 * b1 + 65536 * b2 + 16777216 * b3) = holds ys := by
  unfold holds
  rw [hd, ← hs]
  have hlt : s.toNat < 4294967296 := s.isLt
  by_cases q : W s = b0 + 256 * b1 + 65536 * b2 + 16777216 * b3
  · rw [beq_iff_eq.2 q]
    symm
    apply decide_eq_true
    refine ⟨h4, ?_⟩
    unfold W at q
    unfold by4
    have e0 : b0 = ((s.toNat % 256 : Nat) : Int) := by omega
    have e1 : b1 = ((s.toNat / 256 % 256 : Nat) : Int) := by omega
    have e2 : b2 = ((s.toNat / 65536 % 256 : Nat) : Int) := by omega
    have e3 : b3 = ((s.toNat / 16777216 % 256 : Nat) : Int) := by omega
    rw [e0, e1, e2, e3]
  · rw [show (W s == b0 + 256 * b1 + 65536 * b2 + 16777216 * b3) = false from by simpa using q]
    symm
    apply decide_eq_false
    rintro ⟨_, hz⟩
    apply q
    unfold by4 at hz
    simp only [List.cons.injEq, and_true] at hz
    obtain ⟨rfl, rfl, rfl, rfl⟩ := hz
    unfold W
    omega

theorem StrA.gb {O : Nat → Prop} {w w1 w2 : World} {T : Nat} {v : Value} {xs : List Int} (h : StrA O w T v xs w1) (k : w1.grownBy w2 none) : StrA O w T v xs w2 := by
  obtain ⟨u, M, h1, h2⟩ := h
  exact ⟨u, M, h1.gr (Gr.of (G := fun _ => False) k (by simp)) (fun _ _ z => z), h2.then (Gr.of (G := fun _ => False) k (by simp)) (fun _ _ z => z.elim)⟩
set_option maxRecDepth 20000 in
set_option maxHeartbeats 2000000 in
theorem sholds_c (O : Nat → Prop) (T : Nat) (v u : Value) (xs : List Int) (M a e : Nat) (w : World) (h : Str O w T v u xs M) (ht : Tab w) (h0 : ¬ O 0) (hae : a + 4 ≤ e) (he : e ≤ xs.length) (hl : xs.length ≤ 1099511627776) :
    Calls Tryd.prog 40 #[.pointer (some ⟨T, 0, none⟩), .int .i64 (a : Int), .int .i64 (e : Int)] w fun r w' => r = .returned (.bool (holds ((xs.take e).drop a))) ∧ StrA O w T v xs w' := by
  obtain ⟨n, hn⟩ : ∃ n, n = xs.length := ⟨_, rfl⟩
  obtain ⟨L, rfl⟩ : ∃ L, e = L + 4 := ⟨e - 4, by omega⟩
  have hL4 : (L : Int) + 4 - 4 = (L : Int) := by omega
  have hLw : wrap64 (L : Int) = (L : Int) := IntWalk.wrap64_in _ ⟨by omega, by omega⟩
  have hLi : IntKind.i64.wrap (L : Int) = (L : Int) := IntWalk.i64_in _ ⟨by omega, by omega⟩
  have hLc : ((L + 4 : Nat) : Int) = (L : Int) + 4 := by omega
  obtain ⟨va, vc, rfl, _, _, hvc⟩ := h.ob.seg
  rw [← hn] at h hvc he hl ⊢
  have c0 : w.cell? ⟨T, 0, none⟩ = some (.slice va n vc) := h.bk.cell 0
  have hslc := slice_blh va n vc L (L + 4) (by omega) (by omega) w
  rw [show L + 4 - L = 4 from by omega, show ((L + 4 : Nat) : Int) = (L : Int) + 4 from by omega] at hslc
  have hb0 := h.ob
  rw [← hn] at hb0
  have hcut := seg_cutB (own_segv hb0).1 L (L + 4) (by omega) he hvc
  rw [show L + 4 - L = 4 from by omega] at hcut
  obtain ⟨s, hs⟩ : ∃ s, s = sum ((xs.take L).drop a) := ⟨_, rfl⟩
  obtain ⟨ys, hys⟩ : ∃ ys, ys = (xs.take (L + 4)).drop a := ⟨_, rfl⟩
  obtain ⟨zs, hzs⟩ : ∃ zs, zs = (xs.take (L + 4)).drop L := ⟨_, rfl⟩
  have hzl : zs.length = 4 := by rw [hzs]; exact hcut.1
  have hyl : ys.length = L + 4 - a := by rw [hys, List.length_drop, List.length_take]; omega
  have hyd : ys.drop (ys.length - 4) = zs := by
    rw [hyl, hys, hzs, List.drop_drop]
    congr 1
    omega
  have hyt : ys.take (ys.length - 4) = (xs.take L).drop a := by
    rw [hyl, hys, List.take_drop, List.take_take]
    congr 2
    omega
  have hbz : Bytes zs := by rw [hzs]; exact (h.hx.take _).drop _
  rw [← hzs] at hcut
  rw [← hys]
  obtain ⟨b0, b1, b2, b3, rfl⟩ : ∃ b0 b1 b2 b3, zs = [b0, b1, b2, b3] := by
    match zs, hzl with
    | [p, q, r, t], _ => exact ⟨p, q, r, t, rfl⟩
  have p0 : 0 ≤ b0 ∧ b0 < 256 := hbz 0 (by simp)
  have p1 : 0 ≤ b1 ∧ b1 < 256 := hbz 1 (by simp)
  have p2 : 0 ≤ b2 ∧ b2 < 256 := hbz 2 (by simp)
  have p3 : 0 ≤ b3 ∧ b3 < 256 := hbz 3 (by simp)
  have HHW : Hid ((W s == b0 + 256 * b1 + 65536 * b2 + 16777216 * b3) = holds ys) := holds_word ys s b0 b1 b2 b3 p0 p1 p2 p3 (by rw [hyt, hs]) (by omega) hyd
  obtain ⟨G, hG⟩ : ∃ G, G = holds ys := ⟨_, rfl⟩
  rw [← hG] at HHW ⊢
  obtain ⟨Y1, hY1⟩ : ∃ Y, Y = b0 + b1 * 256 := ⟨_, rfl⟩
  obtain ⟨Y2, hY2⟩ : ∃ Y, Y = Y1 + b2 * 65536 := ⟨_, rfl⟩
  obtain ⟨Y3, hY3⟩ : ∃ Y, Y = Y2 + b3 * 16777216 := ⟨_, rfl⟩
  rw [show b0 + 256 * b1 + 65536 * b2 + 16777216 * b3 = Y3 from by omega] at HHW
  have HOR : Hid (bits .or .u32 b0 (b1 * 256) = Y1 ∧ bits .or .u32 Y1 (b2 * 65536) = Y2 ∧ bits .or .u32 Y2 (b3 * 16777216) = Y3) := by
    refine ⟨?_, ?_, ?_⟩
    · rw [u32_or8 (y := b0) (x := b1 * 256) p0.1 p0.2 (by omega) (by omega) (by omega)]; omega
    · rw [u32_or16 (y := Y1) (x := b2 * 65536) (by omega) (by omega) (by omega) (by omega) (by omega)]; omega
    · rw [u32_or24 (y := Y2) (x := b3 * 16777216) (by omega) (by omega) (by omega) (by omega) (by omega)]; omega
  have HWR : Hid (IntKind.u32.wrap b0 = b0 ∧ IntKind.u32.wrap b1 = b1 ∧ IntKind.u32.wrap b2 = b2 ∧ IntKind.u32.wrap b3 = b3 ∧ IntKind.u32.wrap (b1 * 256) = b1 * 256 ∧ IntKind.u32.wrap (b2 * 65536) = b2 * 65536 ∧ IntKind.u32.wrap (b3 * 16777216) = b3 * 16777216) := ⟨wraps_u32 _ p0.1 (by omega), wraps_u32 _ p1.1 (by omega), wraps_u32 _ p2.1 (by omega), wraps_u32 _ p3.1 (by omega), wraps_u32 _ (by omega) (by omega), wraps_u32 _ (by omega) (by omega), wraps_u32 _ (by omega) (by omega)⟩
  obtain ⟨B, P, hBP, hBl, hcs⟩ := hcut.cells (by decide)
  have hBo : va.map (·.block) = some B := by
    unfold cutB at hBP
    rw [if_neg (by omega)] at hBP
    cases va with
    | none => cases hBP
    | some x =>
      have := congrArg (Option.map (·.block)) hBP
      simp only [Option.map_some] at this ⊢
      rw [← this]
      unfold Addr.add
      split <;> rfl
  have hvB : (Value.slice va n vc).ownBlock = some B := by
    cases va with
    | none => cases hBo
    | some x => exact hBo
  have HK : Hid (∀ W, Gr (fun b => O b ∨ w.heap.size ≤ b) w W → W.cell? ⟨B, P, none⟩ = some (.int .u8 b0) ∧ W.cell? ⟨B, P + 1, none⟩ = some (.int .u8 b1) ∧ W.cell? ⟨B, P + 2, none⟩ = some (.int .u8 b2) ∧ W.cell? ⟨B, P + 3, none⟩ = some (.int .u8 b3)) := fun W hg => by
    have hbk := hg.block B hBl (fun z => z.elim (h.ov B hvB) (fun q => by omega))
    have hh : ∀ i, i < 4 → W.cell? ⟨B, P + i, none⟩ = some (.int .u8 (([b0, b1, b2, b3] : List Int)[i]?.getD 0)) := fun i hi => (World.cell?_of_block (w := w) (w' := W) (a := ⟨B, P + i, none⟩) hbk).trans (hcs i hi)
    exact ⟨hh 0 (by decide), hh 1 (by decide), hh 2 (by decide), hh 3 (by decide)⟩
  have HC : Hid (∀ W, w.grownBy W none → Calls Tryd.prog 41 #[.pointer (some ⟨T, 0, none⟩), .int .i64 (a : Int), .int .i64 (L : Int)] W fun r w' => r = .returned (.int .u32 (Go.Proofs.YtbfbehjldloeoaaDoor.W (s))) ∧ StrA O w T (.slice va n vc) xs w' ∧ Gr (fun b => O b ∨ w.heap.size ≤ b) W w') := fun W hg => by
    have hG0 : Gr (fun _ => False) w W := Gr.of hg (by simp)
    have hGO : Gr O w W := (Gr.refl O w).then hG0 (fun _ _ z => z.elim)
    have := ssum_c (fun b => O b ∨ w.heap.size ≤ b) T (.slice va n vc) u xs M a L W (h.more.gr hG0 (fun _ _ z => z)) (ht.gr hGO h0) (fun z => z.elim h0 (fun q => by have := ht.pos; omega)) (by omega) (by omega) (by omega)
    rw [← hs] at this
    refine this.mono ?_
    rintro r w' ⟨q1, q2⟩
    have q5 := StrA.then hGO q2
    obtain ⟨_, _, _, q3⟩ := q2
    exact ⟨q1, q5, q3⟩
  rw [hBP] at hslc
  clear h ht h0 hn hb0 hcut hcs hBo hvB hBP hbz hzl hyl hyd hyt hzs hys hs hG hY1 hY2 hY3 p0 p1 p2 p3 hBl
  rw [hLc]
  clear hLc
  go_enter Tryd.func40, Tryd.ntmps40
  go_wp2_with fail
  refine wp_region_lastB (fun a b => Gr (fun b => O b ∨ w.heap.size ≤ b) a b) (fun a b => World.grownBy a b none) (fun a b => Gr (fun b => O b ∨ w.heap.size ≤ b) a b) (fun _ _ _ h k => h.trans k) (fun _ _ h => Gr.of h (by simp)) (fun _ _ h => h) ⟨rfl, rfl, rfl, Nat.le_refl _, fun _ _ _ => rfl⟩ (fun _ _ _ h k => gb_trans h k) ⟨rfl, rfl, rfl, Nat.le_refl _, fun _ _ _ => rfl⟩ 27 3 rfl (by kernel_rfl) [18, 19, 20, 21, 22, 23, 24, 25, 26, 27, 28, 29, 30, 31, 32, 33, 34, 35, 36, 37, 38, 39, 40, 41, 42, 43, 44, 6] [[], [], [], [0, 1, 2], [], [4], [5], [6], [], [8], [9], [10], [11], [7, 12], [], [14], [15], [16], [17], [13, 18], [], [20], [21], [22], [23], [19, 24], [3, 25], [26]] (by kernel_rfl) (by kernel_rfl) [] (by kernel_rfl) [fun u W => u = .pointer (some ⟨T, 0, none⟩), fun u W => u = .int .i64 (a : Int), fun u W => u = .int .i64 (L : Int), fun u Wo => u = .int .u32 (Go.Proofs.YtbfbehjldloeoaaDoor.W (s)) ∧ StrA O w T (.slice va n vc) xs Wo, fun u W => u = .slice (some ⟨B, P, none⟩) 4 (vc - L), fun u W => u = .pointer (some ⟨B, P, none⟩), fun u W => u = .int .u8 b0, fun u W => u = .int .u32 b0, fun u W => u = .slice (some ⟨B, P, none⟩) 4 (vc - L), fun u W => u = .pointer (some ⟨B, P + 1, none⟩), fun u W => u = .int .u8 b1, fun u W => u = .int .u32 b1, fun u W => u = .int .u32 (b1 * 256), fun u W => u = .int .u32 Y1, fun u W => u = .slice (some ⟨B, P, none⟩) 4 (vc - L), fun u W => u = .pointer (some ⟨B, P + 2, none⟩), fun u W => u = .int .u8 b2, fun u W => u = .int .u32 b2, fun u W => u = .int .u32 (b2 * 65536), fun u W => u = .int .u32 Y2, fun u W => u = .slice (some ⟨B, P, none⟩) 4 (vc - L), fun u W => u = .pointer (some ⟨B, P + 3, none⟩), fun u W => u = .int .u8 b3, fun u W => u = .int .u32 b3, fun u W => u = .int .u32 (b3 * 16777216), fun u W => u = .int .u32 Y3, fun u W => u = .bool G] ?stable ?stableA ?step ?last
  case stable =>
    intro i v W W' h hg
    match i, h with
    | 0, h => exact h
    | 1, h => exact h
    | 2, h => exact h
    | 3, h => exact ⟨h.1, h.2.gb hg⟩
    | 4, h => exact h
    | 5, h => exact h
    | 6, h => exact h
    | 7, h => exact h
    | 8, h => exact h
    | 9, h => exact h
    | 10, h => exact h
    | 11, h => exact h
    | 12, h => exact h
    | 13, h => exact h
    | 14, h => exact h
    | 15, h => exact h
    | 16, h => exact h
    | 17, h => exact h
    | 18, h => exact h
    | 19, h => exact h
    | 20, h => exact h
    | 21, h => exact h
    | 22, h => exact h
    | 23, h => exact h
    | 24, h => exact h
    | 25, h => exact h
    | 26, h => exact h
    | i + 27, h => exact trivial
  case stableA =>
    intro i v W W' hne hnu h hg
    match i, hne, h with
    | 0, _, h => exact h
    | 1, _, h => exact h
    | 2, _, h => exact h
    | 3, hne, _ => exact absurd rfl hne
    | 4, _, h => exact h
    | 5, _, h => exact h
    | 6, _, h => exact h
    | 7, _, h => exact h
    | 8, _, h => exact h
    | 9, _, h => exact h
    | 10, _, h => exact h
    | 11, _, h => exact h
    | 12, _, h => exact h
    | 13, _, h => exact h
    | 14, _, h => exact h
    | 15, _, h => exact h
    | 16, _, h => exact h
    | 17, _, h => exact h
    | 18, _, h => exact h
    | 19, _, h => exact h
    | 20, _, h => exact h
    | 21, _, h => exact h
    | 22, _, h => exact h
    | 23, _, h => exact h
    | 24, _, h => exact h
    | 25, _, h => exact h
    | 26, _, h => exact h
    | i + 27, _, h => exact trivial
  case step =>
    intro f W A hA hg i o hin ho hu K hK
    match i, hin, ho, hu, hK with
    | 0, hin, ho, hu, hK =>
      cases ho
      have e0 : A.eval (.tmp 0) = .pointer (some ⟨T, 0, none⟩) := ev_out hA 0 rfl
      exact ph_move _ rfl rfl (.pointer (some ⟨T, 0, none⟩)) e0 (hK _ _ (gb_rr W _) rfl)
    | 1, hin, ho, hu, hK =>
      cases ho
      have e1 : A.eval (.tmp 1) = .int .i64 (a : Int) := ev_out hA 1 rfl
      exact ph_move _ rfl rfl (.int .i64 (a : Int)) e1 (hK _ _ (gb_rr W _) rfl)
    | 2, hin, ho, hu, hK =>
      cases ho
      have e7 : A.eval (.tmp 7) = .int .i64 (L : Int) := ev_out hA 7 rfl
      exact ph_move _ rfl rfl (.int .i64 (L : Int)) e7 (hK _ _ (gb_rr W _) rfl)
    | 3, hin, ho, hu, hK =>
      cases ho
      have e18 : A.eval (.tmp 18) = .pointer (some ⟨T, 0, none⟩) := (ev_in hA 18 0 rfl rfl rfl).trans (show f 0 = .pointer (some ⟨T, 0, none⟩) from hu 0 (by decide))
      have e19 : A.eval (.tmp 19) = .int .i64 (a : Int) := (ev_in hA 19 1 rfl rfl rfl).trans (show f 1 = .int .i64 (a : Int) from hu 1 (by decide))
      have e20 : A.eval (.tmp 20) = .int .i64 (L : Int) := (ev_in hA 20 2 rfl rfl rfl).trans (show f 2 = .int .i64 (L : Int) from hu 2 (by decide))
      refine ph_fn 41 _ _ rfl rfl #[.pointer (some ⟨T, 0, none⟩), .int .i64 (a : Int), .int .i64 (L : Int)] (by simp [e18, e19, e20]) (by kernel_rfl) ?_
      refine (Calls.mono (HC.out W (hin.2 (.inl rfl))) ?_)
      rintro e W' ⟨rfl, k1, k2⟩
      exact ⟨_, rfl, hK _ _ k2 ⟨rfl, k1⟩⟩
    | 4, hin, ho, hu, hK =>
      cases ho
      have e8 : A.eval (.tmp 8) = .slice (some ⟨B, P, none⟩) 4 (vc - L) := ev_out hA 8 rfl
      exact ph_move _ rfl rfl (.slice (some ⟨B, P, none⟩) 4 (vc - L)) e8 (hK _ _ (gb_rr W _) rfl)
    | 5, hin, ho, hu, hK =>
      cases ho
      have e22 : A.eval (.tmp 22) = .slice (some ⟨B, P, none⟩) 4 (vc - L) := (ev_in hA 22 4 rfl rfl rfl).trans (show f 4 = .slice (some ⟨B, P, none⟩) 4 (vc - L) from hu 4 (by decide))
      refine ph_sem rfl rfl (r := .ok (.value (.pointer (some ⟨B, P, none⟩))) W) ?_ (hK _ _ (gb_rr W _) rfl)
      have eC : ∀ c, A.eval (.const c) = c := fun _ => rfl; have eF : ∀ g, A.eval (.func g) = .func (.func g) #[] #[] := fun _ => rfl; generalize A.eval = ρ at *
      clear hA hu hg hK hin
      go_simp
    | 6, hin, ho, hu, hK =>
      cases ho
      have e23 : A.eval (.tmp 23) = .pointer (some ⟨B, P, none⟩) := (ev_in hA 23 5 rfl rfl rfl).trans (show f 5 = .pointer (some ⟨B, P, none⟩) from hu 5 (by decide))
      have hc : W.cell? ⟨B, P, none⟩ = some (.int .u8 b0) := (HK.out W hg).1
      refine ph_sem rfl rfl (r := .ok (.value (.int .u8 b0)) W) ?_ (hK _ _ (gb_rr W _) rfl)
      have eC : ∀ c, A.eval (.const c) = c := fun _ => rfl; have eF : ∀ g, A.eval (.func g) = .func (.func g) #[] #[] := fun _ => rfl; generalize A.eval = ρ at *
      clear hA hu hg
      go_simp
    | 7, hin, ho, hu, hK =>
      cases ho
      have e24 : A.eval (.tmp 24) = .int .u8 b0 := (ev_in hA 24 6 rfl rfl rfl).trans (show f 6 = .int .u8 b0 from hu 6 (by decide))
      obtain ⟨q0, q1, q2, q3, q4, q5, q6⟩ := HWR.out
      obtain ⟨r1, r2, r3⟩ := HOR.out
      refine ph_sem rfl rfl (r := .ok (.value (.int .u32 b0)) W) ?_ (hK _ _ (gb_rr W _) rfl)
      have eC : ∀ c, A.eval (.const c) = c := fun _ => rfl; have eF : ∀ g, A.eval (.func g) = .func (.func g) #[] #[] := fun _ => rfl; generalize A.eval = ρ at *
      clear hA hu hg hK hin
      go_simp
    | 8, hin, ho, hu, hK =>
      cases ho
      have e8 : A.eval (.tmp 8) = .slice (some ⟨B, P, none⟩) 4 (vc - L) := ev_out hA 8 rfl
      exact ph_move _ rfl rfl (.slice (some ⟨B, P, none⟩) 4 (vc - L)) e8 (hK _ _ (gb_rr W _) rfl)
    | 9, hin, ho, hu, hK =>
      cases ho
      have e26 : A.eval (.tmp 26) = .slice (some ⟨B, P, none⟩) 4 (vc - L) := (ev_in hA 26 8 rfl rfl rfl).trans (show f 8 = .slice (some ⟨B, P, none⟩) 4 (vc - L) from hu 8 (by decide))
      refine ph_sem rfl rfl (r := .ok (.value (.pointer (some ⟨B, P + 1, none⟩))) W) ?_ (hK _ _ (gb_rr W _) rfl)
      have eC : ∀ c, A.eval (.const c) = c := fun _ => rfl; have eF : ∀ g, A.eval (.func g) = .func (.func g) #[] #[] := fun _ => rfl; generalize A.eval = ρ at *
      clear hA hu hg hK hin
      go_simp
    | 10, hin, ho, hu, hK =>
      cases ho
      have e27 : A.eval (.tmp 27) = .pointer (some ⟨B, P + 1, none⟩) := (ev_in hA 27 9 rfl rfl rfl).trans (show f 9 = .pointer (some ⟨B, P + 1, none⟩) from hu 9 (by decide))
      have hc : W.cell? ⟨B, P + 1, none⟩ = some (.int .u8 b1) := (HK.out W hg).2.1
      refine ph_sem rfl rfl (r := .ok (.value (.int .u8 b1)) W) ?_ (hK _ _ (gb_rr W _) rfl)
      have eC : ∀ c, A.eval (.const c) = c := fun _ => rfl; have eF : ∀ g, A.eval (.func g) = .func (.func g) #[] #[] := fun _ => rfl; generalize A.eval = ρ at *
      clear hA hu hg
      go_simp
    | 11, hin, ho, hu, hK =>
      cases ho
      have e28 : A.eval (.tmp 28) = .int .u8 b1 := (ev_in hA 28 10 rfl rfl rfl).trans (show f 10 = .int .u8 b1 from hu 10 (by decide))
      obtain ⟨q0, q1, q2, q3, q4, q5, q6⟩ := HWR.out
      obtain ⟨r1, r2, r3⟩ := HOR.out
      refine ph_sem rfl rfl (r := .ok (.value (.int .u32 b1)) W) ?_ (hK _ _ (gb_rr W _) rfl)
      have eC : ∀ c, A.eval (.const c) = c := fun _ => rfl; have eF : ∀ g, A.eval (.func g) = .func (.func g) #[] #[] := fun _ => rfl; generalize A.eval = ρ at *
      clear hA hu hg hK hin
      go_simp
    | 12, hin, ho, hu, hK =>
      cases ho
      have e29 : A.eval (.tmp 29) = .int .u32 b1 := (ev_in hA 29 11 rfl rfl rfl).trans (show f 11 = .int .u32 b1 from hu 11 (by decide))
      obtain ⟨q0, q1, q2, q3, q4, q5, q6⟩ := HWR.out
      obtain ⟨r1, r2, r3⟩ := HOR.out
      refine ph_sem rfl rfl (r := .ok (.value (.int .u32 (b1 * 256))) W) ?_ (hK _ _ (gb_rr W _) rfl)
      have eC : ∀ c, A.eval (.const c) = c := fun _ => rfl; have eF : ∀ g, A.eval (.func g) = .func (.func g) #[] #[] := fun _ => rfl; generalize A.eval = ρ at *
      clear hA hu hg hK hin
      go_simp
    | 13, hin, ho, hu, hK =>
      cases ho
      have e25 : A.eval (.tmp 25) = .int .u32 b0 := (ev_in hA 25 7 rfl rfl rfl).trans (show f 7 = .int .u32 b0 from hu 7 (by decide))
      have e30 : A.eval (.tmp 30) = .int .u32 (b1 * 256) := (ev_in hA 30 12 rfl rfl rfl).trans (show f 12 = .int .u32 (b1 * 256) from hu 12 (by decide))
      obtain ⟨q0, q1, q2, q3, q4, q5, q6⟩ := HWR.out
      obtain ⟨r1, r2, r3⟩ := HOR.out
      refine ph_sem rfl rfl (r := .ok (.value (.int .u32 Y1)) W) ?_ (hK _ _ (gb_rr W _) rfl)
      have eC : ∀ c, A.eval (.const c) = c := fun _ => rfl; have eF : ∀ g, A.eval (.func g) = .func (.func g) #[] #[] := fun _ => rfl; generalize A.eval = ρ at *
      clear hA hu hg hK hin
      go_simp
    | 14, hin, ho, hu, hK =>
      cases ho
      have e8 : A.eval (.tmp 8) = .slice (some ⟨B, P, none⟩) 4 (vc - L) := ev_out hA 8 rfl
      exact ph_move _ rfl rfl (.slice (some ⟨B, P, none⟩) 4 (vc - L)) e8 (hK _ _ (gb_rr W _) rfl)
    | 15, hin, ho, hu, hK =>
      cases ho
      have e32 : A.eval (.tmp 32) = .slice (some ⟨B, P, none⟩) 4 (vc - L) := (ev_in hA 32 14 rfl rfl rfl).trans (show f 14 = .slice (some ⟨B, P, none⟩) 4 (vc - L) from hu 14 (by decide))
      refine ph_sem rfl rfl (r := .ok (.value (.pointer (some ⟨B, P + 2, none⟩))) W) ?_ (hK _ _ (gb_rr W _) rfl)
      have eC : ∀ c, A.eval (.const c) = c := fun _ => rfl; have eF : ∀ g, A.eval (.func g) = .func (.func g) #[] #[] := fun _ => rfl; generalize A.eval = ρ at *
      clear hA hu hg hK hin
      go_simp
    | 16, hin, ho, hu, hK =>
      cases ho
      have e33 : A.eval (.tmp 33) = .pointer (some ⟨B, P + 2, none⟩) := (ev_in hA 33 15 rfl rfl rfl).trans (show f 15 = .pointer (some ⟨B, P + 2, none⟩) from hu 15 (by decide))
      have hc : W.cell? ⟨B, P + 2, none⟩ = some (.int .u8 b2) := (HK.out W hg).2.2.1
      refine ph_sem rfl rfl (r := .ok (.value (.int .u8 b2)) W) ?_ (hK _ _ (gb_rr W _) rfl)
      have eC : ∀ c, A.eval (.const c) = c := fun _ => rfl; have eF : ∀ g, A.eval (.func g) = .func (.func g) #[] #[] := fun _ => rfl; generalize A.eval = ρ at *
      clear hA hu hg
      go_simp
    | 17, hin, ho, hu, hK =>
      cases ho
      have e34 : A.eval (.tmp 34) = .int .u8 b2 := (ev_in hA 34 16 rfl rfl rfl).trans (show f 16 = .int .u8 b2 from hu 16 (by decide))
      obtain ⟨q0, q1, q2, q3, q4, q5, q6⟩ := HWR.out
      obtain ⟨r1, r2, r3⟩ := HOR.out
      refine ph_sem rfl rfl (r := .ok (.value (.int .u32 b2)) W) ?_ (hK _ _ (gb_rr W _) rfl)
      have eC : ∀ c, A.eval (.const c) = c := fun _ => rfl; have eF : ∀ g, A.eval (.func g) = .func (.func g) #[] #[] := fun _ => rfl; generalize A.eval = ρ at *
      clear hA hu hg hK hin
      go_simp
    | 18, hin, ho, hu, hK =>
      cases ho
      have e35 : A.eval (.tmp 35) = .int .u32 b2 := (ev_in hA 35 17 rfl rfl rfl).trans (show f 17 = .int .u32 b2 from hu 17 (by decide))
      obtain ⟨q0, q1, q2, q3, q4, q5, q6⟩ := HWR.out
      obtain ⟨r1, r2, r3⟩ := HOR.out
      refine ph_sem rfl rfl (r := .ok (.value (.int .u32 (b2 * 65536))) W) ?_ (hK _ _ (gb_rr W _) rfl)
      have eC : ∀ c, A.eval (.const c) = c := fun _ => rfl; have eF : ∀ g, A.eval (.func g) = .func (.func g) #[] #[] := fun _ => rfl; generalize A.eval = ρ at *
      clear hA hu hg hK hin
      go_simp
    | 19, hin, ho, hu, hK =>
      cases ho
      have e31 : A.eval (.tmp 31) = .int .u32 Y1 := (ev_in hA 31 13 rfl rfl rfl).trans (show f 13 = .int .u32 Y1 from hu 13 (by decide))
      have e36 : A.eval (.tmp 36) = .int .u32 (b2 * 65536) := (ev_in hA 36 18 rfl rfl rfl).trans (show f 18 = .int .u32 (b2 * 65536) from hu 18 (by decide))
      obtain ⟨q0, q1, q2, q3, q4, q5, q6⟩ := HWR.out
      obtain ⟨r1, r2, r3⟩ := HOR.out
      refine ph_sem rfl rfl (r := .ok (.value (.int .u32 Y2)) W) ?_ (hK _ _ (gb_rr W _) rfl)
      have eC : ∀ c, A.eval (.const c) = c := fun _ => rfl; have eF : ∀ g, A.eval (.func g) = .func (.func g) #[] #[] := fun _ => rfl; generalize A.eval = ρ at *
      clear hA hu hg hK hin
      go_simp
    | 20, hin, ho, hu, hK =>
      cases ho
      have e8 : A.eval (.tmp 8) = .slice (some ⟨B, P, none⟩) 4 (vc - L) := ev_out hA 8 rfl
      exact ph_move _ rfl rfl (.slice (some ⟨B, P, none⟩) 4 (vc - L)) e8 (hK _ _ (gb_rr W _) rfl)
    | 21, hin, ho, hu, hK =>
      cases ho
      have e38 : A.eval (.tmp 38) = .slice (some ⟨B, P, none⟩) 4 (vc - L) := (ev_in hA 38 20 rfl rfl rfl).trans (show f 20 = .slice (some ⟨B, P, none⟩) 4 (vc - L) from hu 20 (by decide))
      refine ph_sem rfl rfl (r := .ok (.value (.pointer (some ⟨B, P + 3, none⟩))) W) ?_ (hK _ _ (gb_rr W _) rfl)
      have eC : ∀ c, A.eval (.const c) = c := fun _ => rfl; have eF : ∀ g, A.eval (.func g) = .func (.func g) #[] #[] := fun _ => rfl; generalize A.eval = ρ at *
      clear hA hu hg hK hin
      go_simp
    | 22, hin, ho, hu, hK =>
      cases ho
      have e39 : A.eval (.tmp 39) = .pointer (some ⟨B, P + 3, none⟩) := (ev_in hA 39 21 rfl rfl rfl).trans (show f 21 = .pointer (some ⟨B, P + 3, none⟩) from hu 21 (by decide))
      have hc : W.cell? ⟨B, P + 3, none⟩ = some (.int .u8 b3) := (HK.out W hg).2.2.2
      refine ph_sem rfl rfl (r := .ok (.value (.int .u8 b3)) W) ?_ (hK _ _ (gb_rr W _) rfl)
      have eC : ∀ c, A.eval (.const c) = c := fun _ => rfl; have eF : ∀ g, A.eval (.func g) = .func (.func g) #[] #[] := fun _ => rfl; generalize A.eval = ρ at *
      clear hA hu hg
      go_simp
    | 23, hin, ho, hu, hK =>
      cases ho
      have e40 : A.eval (.tmp 40) = .int .u8 b3 := (ev_in hA 40 22 rfl rfl rfl).trans (show f 22 = .int .u8 b3 from hu 22 (by decide))
      obtain ⟨q0, q1, q2, q3, q4, q5, q6⟩ := HWR.out
      obtain ⟨r1, r2, r3⟩ := HOR.out
      refine ph_sem rfl rfl (r := .ok (.value (.int .u32 b3)) W) ?_ (hK _ _ (gb_rr W _) rfl)
      have eC : ∀ c, A.eval (.const c) = c := fun _ => rfl; have eF : ∀ g, A.eval (.func g) = .func (.func g) #[] #[] := fun _ => rfl; generalize A.eval = ρ at *
      clear hA hu hg hK hin
      go_simp
    | 24, hin, ho, hu, hK =>
      cases ho
      have e41 : A.eval (.tmp 41) = .int .u32 b3 := (ev_in hA 41 23 rfl rfl rfl).trans (show f 23 = .int .u32 b3 from hu 23 (by decide))
      obtain ⟨q0, q1, q2, q3, q4, q5, q6⟩ := HWR.out
      obtain ⟨r1, r2, r3⟩ := HOR.out
      refine ph_sem rfl rfl (r := .ok (.value (.int .u32 (b3 * 16777216))) W) ?_ (hK _ _ (gb_rr W _) rfl)
      have eC : ∀ c, A.eval (.const c) = c := fun _ => rfl; have eF : ∀ g, A.eval (.func g) = .func (.func g) #[] #[] := fun _ => rfl; generalize A.eval = ρ at *
      clear hA hu hg hK hin
      go_simp
    | 25, hin, ho, hu, hK =>
      cases ho
      have e37 : A.eval (.tmp 37) = .int .u32 Y2 := (ev_in hA 37 19 rfl rfl rfl).trans (show f 19 = .int .u32 Y2 from hu 19 (by decide))
      have e42 : A.eval (.tmp 42) = .int .u32 (b3 * 16777216) := (ev_in hA 42 24 rfl rfl rfl).trans (show f 24 = .int .u32 (b3 * 16777216) from hu 24 (by decide))
      obtain ⟨q0, q1, q2, q3, q4, q5, q6⟩ := HWR.out
      obtain ⟨r1, r2, r3⟩ := HOR.out
      refine ph_sem rfl rfl (r := .ok (.value (.int .u32 Y3)) W) ?_ (hK _ _ (gb_rr W _) rfl)
      have eC : ∀ c, A.eval (.const c) = c := fun _ => rfl; have eF : ∀ g, A.eval (.func g) = .func (.func g) #[] #[] := fun _ => rfl; generalize A.eval = ρ at *
      clear hA hu hg hK hin
      go_simp
    | 26, hin, ho, hu, hK =>
      cases ho
      obtain ⟨hv3, hs3⟩ := hu 3 (by decide)
      have e21 : A.eval (.tmp 21) = .int .u32 (Go.Proofs.YtbfbehjldloeoaaDoor.W (s)) := (ev_in hA 21 3 rfl rfl rfl).trans hv3
      have e43 : A.eval (.tmp 43) = .int .u32 Y3 := (ev_in hA 43 25 rfl rfl rfl).trans (show f 25 = .int .u32 Y3 from hu 25 (by decide))
      have hhw := HHW.out
      refine ph_sem rfl rfl (r := .ok (.value (.bool G)) W) ?_ (hK _ _ (gb_rr W _) rfl)
      have eC : ∀ c, A.eval (.const c) = c := fun _ => rfl; have eF : ∀ g, A.eval (.func g) = .func (.func g) #[] #[] := fun _ => rfl; generalize A.eval = ρ at *
      clear hA hu hg hK hin
      go_simp
    | i + 27, hin, ho, hu, hK => omega
  case last =>
    intro f W A hA hg hu o ho K hK
    cases ho
    have e44 : A.eval (.tmp 44) = .bool G := (ev_in hA 44 26 rfl rfl rfl).trans (show f 26 = .bool G from hu 26 (by decide))
    obtain ⟨hv3, hs3⟩ := hu 3 (by decide)
    have HSA : Hid _ := hs3
    refine ph_assign _ rfl rfl _ e44 (hK _ _ ?_)
    have hA2 := hA.trans (putAll_lit [(.pointer (some ⟨T, 0, none⟩)), (.int .i64 (a : Int)), (.int .i64 (L : Int)), (.int .u32 (Go.Proofs.YtbfbehjldloeoaaDoor.W (s))), (.slice (some ⟨B, P, none⟩) 4 (vc - L)), (.pointer (some ⟨B, P, none⟩)), (.int .u8 b0), (.int .u32 b0), (.slice (some ⟨B, P, none⟩) 4 (vc - L)), (.pointer (some ⟨B, P + 1, none⟩)), (.int .u8 b1), (.int .u32 b1), (.int .u32 (b1 * 256)), (.int .u32 Y1), (.slice (some ⟨B, P, none⟩) 4 (vc - L)), (.pointer (some ⟨B, P + 2, none⟩)), (.int .u8 b2), (.int .u32 b2), (.int .u32 (b2 * 65536)), (.int .u32 Y2), (.slice (some ⟨B, P, none⟩) 4 (vc - L)), (.pointer (some ⟨B, P + 3, none⟩)), (.int .u8 b3), (.int .u32 b3), (.int .u32 (b3 * 16777216)), (.int .u32 Y3), (.bool G), (f 27)] (by
      intro j hj
      match j, hj with
      | 0, _ => exact hu 0 (by decide)
      | 1, _ => exact hu 1 (by decide)
      | 2, _ => exact hu 2 (by decide)
      | 3, _ => exact hv3
      | 4, _ => exact hu 4 (by decide)
      | 5, _ => exact hu 5 (by decide)
      | 6, _ => exact hu 6 (by decide)
      | 7, _ => exact hu 7 (by decide)
      | 8, _ => exact hu 8 (by decide)
      | 9, _ => exact hu 9 (by decide)
      | 10, _ => exact hu 10 (by decide)
      | 11, _ => exact hu 11 (by decide)
      | 12, _ => exact hu 12 (by decide)
      | 13, _ => exact hu 13 (by decide)
      | 14, _ => exact hu 14 (by decide)
      | 15, _ => exact hu 15 (by decide)
      | 16, _ => exact hu 16 (by decide)
      | 17, _ => exact hu 17 (by decide)
      | 18, _ => exact hu 18 (by decide)
      | 19, _ => exact hu 19 (by decide)
      | 20, _ => exact hu 20 (by decide)
      | 21, _ => exact hu 21 (by decide)
      | 22, _ => exact hu 22 (by decide)
      | 23, _ => exact hu 23 (by decide)
      | 24, _ => exact hu 24 (by decide)
      | 25, _ => exact hu 25 (by decide)
      | 26, _ => exact hu 26 (by decide)
      | 27, _ => rfl
      | j + 28, hj => exact absurd hj (by simp)))
    clear hu hA
    subst hA2
    simp only [putAll, putL, List.mem_cons, List.not_mem_nil, List.idxOf_cons, Nat.reduceEqDiff, Nat.reduceBEq, Nat.reduceAdd, or_false, or_true, reduceIte, cond_true, cond_false, List.getD_cons_zero, List.getD_cons_succ, BEq.rfl]
    clear e44 hg hs3 hv3
    go_wp2
    go_ret
    exact ⟨rfl, HSA.out⟩
end Go.Proofs.YtbfbehjldloeoaaDoor
