/-
  What bytes.Clone and stretch.from answer, and what Splitter.take and Splitter.leave leave. Condition: at most 2^40 bytes.
-/
import Derived.Test.YtbfbehjldloeoaaDoorFFi
import Derived.Lib.Slices
import Derived.Maps.AppendAt
import Derived.Laws.OwnMore
namespace Go.Proofs.YtbfbehjldloeoaaDoor
set_option linter.unusedVariables false
open Go.RowKit

theorem own_empty (w : World) : Own w.heap.size (w.alloc (.cells #[] 5)) (.slice (some ⟨w.heap.size, 0, none⟩) 0 0) 0 [] :=
  ⟨rfl, .inr ⟨w.heap.size, 0, #[], rfl, Nat.le_refl _, heap_new w _, Nat.le_refl _, Nat.zero_le _, rfl, rfl⟩⟩
set_option maxHeartbeats 1000000 in
theorem bclone_c (a : Option Addr) (len cap : Nat) (xs : List Int) (w : World) (h : Seg .u8 w a len xs) (hl : len ≤ 140737488355328) (hnz : a = none → cap = 0) :
    Calls Tryd.prog 39 #[.slice a len cap] w fun r w' => ∃ a' c', r = .returned (.slice a' len c') ∧ Own w.heap.size w' (.slice a' len c') len xs ∧ Below w.heap.size w w' := by
  cases a with
  | none =>
    have hm0 : len = 0 := by
      rcases h.2 with h0 | ⟨_, _, h, _⟩
      · exact h0
      · cases h
    subst hm0
    obtain rfl := hnz rfl
    have HS : Hid (xs = []) := List.length_eq_zero_iff.1 h.1
    have hq := fun w => Lib.run_eql_slice_nil (P := Tryd.prog) w 22 5 none 0 0 0 0 Tryd.underlying22
    simp only [Option.isNone] at hq
    clear h
    go_enter Tryd.func39, Tryd.ntmps39
    go_wp2
    go_ret
    exact ⟨none, 0, rfl, by rw [HS.out]; exact own_nil _ _, Below.refl _ _⟩
  | some ad =>
    have HS : Hid (Seg .u8 w (some ad) len xs) := h
    have hq := fun w => Lib.run_eql_slice_nil (P := Tryd.prog) w 22 5 (some ad) len cap 0 0 Tryd.underlying22
    simp only [Option.isNone] at hq
    clear h
    go_enter Tryd.func39, Tryd.ntmps39
    go_wp2_with (at_builtin; go_must (refine wpList_append_grow _ rfl (.tmp 5) (.tmp 6) rfl w.heap.size 0 _ [] rfl (own_empty w) (some ad) len cap xs rfl (fun h => by cases h) (HS.out.below ((Below.refl _ _).alloc (Nat.le_refl _) _)) (by omega) (by simp) ?_); intro v' w1 hm hb; rw [Nat.zero_add, List.nil_append] at hm; have HM : Hid (Own w.heap.size w1 v' len xs ∧ Below w.heap.size w w1) := ⟨hm, ((Below.refl _ _).alloc (Nat.le_refl _) _).trans hb⟩; clear hm hb)
    obtain ⟨a', c', rfl, _⟩ := HM.out.1.seg
    go_ret
    exact ⟨a', c', rfl, HM.out.1, HM.out.2⟩
/-- What stretch.from answers. -/
def FromA (w : World) (zs : List Int) (r : Ending) (w' : World) : Prop := ∃ T' va' vc', r = .returned (.pointer (some ⟨T', 0, none⟩)) ∧ Bk 49 w' T' #[.slice va' zs.length vc', .slice none 0 0] ∧ Own w.heap.size w' (.slice va' zs.length vc') zs.length zs ∧ w.heap.size ≤ T' ∧ (Value.slice va' zs.length vc').ownBlock ≠ some T' ∧ Below w.heap.size w w'
theorem cutB_none {a : Option Addr} {cap p : Nat} (h : cutB a cap p = none) : a = none := by
  unfold cutB at h
  split at h
  · exact h
  · cases a with
    | none => rfl
    | some x => cases h
set_option maxHeartbeats 1000000 in
theorem from_c (T n vc a e : Nat) (va : Option Addr) (u : Value) (xs : List Int) (w : World) (h : Bk 49 w T #[.slice va n vc, u]) (ho : Own 0 w (.slice va n vc) n xs) (ha : a ≤ e) (he : e ≤ n) (hl : n ≤ 1099511627776) :
    Calls Tryd.prog 32 #[.pointer (some ⟨T, 0, none⟩), .int .i64 (a : Int), .int .i64 (e : Int)] w fun r w' => FromA w ((xs.take e).drop a) r w' := by
  obtain ⟨hs, hnz, hvc⟩ := own_segv ho
  have c0 : w.cell? ⟨T, 0, none⟩ = some (.slice va n vc) := h.cell 0
  have hslc := slice_blh va n vc a e ha (by omega) w
  have hsg := seg_cutB hs a e ha he hvc
  obtain ⟨zs, hzs⟩ : ∃ zs, zs = (xs.take e).drop a := ⟨_, rfl⟩
  have hzl : zs.length = e - a := by rw [hzs]; exact hsg.1
  rw [← hzs] at hsg ⊢
  have HC := bclone_c (cutB va vc a) (e - a) (vc - a) zs w hsg (by omega) (fun z => by have := hnz (cutB_none z); omega)
  rw [← hzl] at hslc HC
  replace HC : Hid _ := HC
  clear h ho hs hnz hsg hzs hzl
  go_enter Tryd.func32, Tryd.ntmps32
  go_wp2_with (go_at_call 39; go_must (refine (Calls.mono HC.out ?_)); rintro r w1 ⟨a', c', rfl, h1, h2⟩; have H1 : Hid (Own w.heap.size w1 (.slice a' zs.length c') zs.length zs ∧ Below w.heap.size w w1) := ⟨h1, h2⟩; clear h1 h2)
  go_ret
  obtain ⟨h1, h2⟩ := H1.out
  refine ⟨w1.heap.size, a', c', rfl, heap_new w1 _, own_gr h1 ((Gr.refl (fun _ => False) w1).alloc _) (fun _ _ z => z), h2.size, fun e => ?_, h2.alloc h2.size _⟩
  have := (own_lt h1 _ e).2
  omega
/-- A step of a drawn region: bytes behind bytes of one's own. -/
theorem ph_cat {ops : Array Oper} {o : Oper} {A : Act} {W : World} {K : Act → World → Prop} {Q : Exit → Act → World → Prop} {E : Prop} (hwt : Region.wanted o (yielded ops A.tmps) = true) (s x : Operand) (ho : o.op = .call { callee := .builtin .append, args := #[s, x], argTypes := #[22, 22] })
    (n : Nat) (v : Value) (xs : List Int) (hs : A.eval s = v) (hown : Own 0 W v n xs) (ao : Option Addr) (m c : Nat) (ys : List Int) (hx : A.eval x = .slice ao m c) (hao : ao = none → c = 0) (hy : Seg .u8 W ao m ys) (hb : n + m ≤ 140737488355328)
    (hK : ∀ v' W', Own 0 W' v' (n + m) (xs ++ ys) → W.grownBy W' v.ownBlock → (v'.ownBlock = v.ownBlock ∨ v'.ownBlock = some W.heap.size) → K (A.put o.dst v') W') : if Region.wanted o (yielded ops A.tmps) = true then Oper.wp Tryd.prog o A W K Q else E := by
  rw [if_pos hwt]
  obtain ⟨i, hi, hz, h4, h5⟩ := info_parts' Tryd.infoU8
  unfold Oper.wp execOp
  cases ao with
  | none =>
    have hm0 : m = 0 := by
      rcases hy.2 with h0 | ⟨_, _, h, _⟩
      · exact h0
      · cases h
    subst hm0
    obtain rfl : ys = [] := List.eq_nil_of_length_eq_zero hy.1
    obtain rfl := hao rfl
    have hrun := run_append_owned_none (P := Tryd.prog) (w := W) 0 22 o.type 5 i 1 Tryd.underlying22 hi v n (xs.map (Value.int .u8)) hown
    simp only [ho, resolve, invoke, builtin, Sem.run_bind, Sem.run_pure, Result.andThen_ok, List.map_toArray, List.map_cons, List.map_nil, hs, hx, hrun]
    exact hK v W (by simpa using hown) ⟨rfl, rfl, rfl, Nat.le_refl _, fun _ _ _ => rfl⟩ (.inl rfl)
  | some ad =>
    obtain ⟨v', W', r1, r2, r3, _, r5⟩ := run_append_own_at (P := Tryd.prog) W 0 22 o.type 5 i (.int .u8 0) 1 1 Tryd.underlying22 hi hz h4 h5 rfl (by decide) v n (xs.map (Value.int .u8)) hown ad m c (ys.map (Value.int .u8)) (by simp [hy.1]) (seg_news' hy ad rfl) (by intro u hu; obtain ⟨z, _, rfl⟩ := List.mem_map.1 hu; rfl) (by unfold maxLen; omega) (by omega) (Nat.zero_le _)
    simp only [ho, resolve, invoke, builtin, Sem.run_bind, Sem.run_pure, Result.andThen_ok, List.map_toArray, List.map_cons, List.map_nil, hs, hx, r1]
    exact hK v' W' (by unfold Own; rw [List.map_append]; exact r2) r3 r5
/-- What take leaves. -/
def TakeB (O : Nat → Prop) (w : World) (S T : Nat) (v u : Value) (xs ys : List Int) (M a : Nat) (most j l : Int) (fv : Value) (w' : World) : Prop :=
  ∃ v', Sp w' S T a (xs ++ ys).length most j l fv ∧ Str (fun k => O k ∧ k < w.heap.size) w' T v' u (xs ++ ys) M ∧ (v'.ownBlock = v.ownBlock ∨ v'.ownBlock = some w.heap.size ∨ ∀ k, v'.ownBlock = some k → w.heap.size ≤ k) ∧ Gr (fun k => k = S ∨ k = T ∨ v.ownBlock = some k) w w'
set_option maxRecDepth 20000 in
set_option maxHeartbeats 2000000 in
theorem take_c (O : Nat → Prop) (S T : Nat) (v u : Value) (xs ys : List Int) (M a : Nat) (most j l : Int) (fv : Value) (ba : Option Addr) (bn bc : Nat) (w : World) (h : Sp w S T a xs.length most j l fv) (hs : Str O w T v u xs M) (hST : S ≠ T) (hvS : v.ownBlock ≠ some S) (huS : u.ownBlock ≠ some S) (hb : Seg .u8 w ba bn ys) (hby : Bytes ys) (hnz : ba = none → bc = 0) (hl : xs.length + bn ≤ 1099511627776) :
    Calls Tryd.prog 17 #[.pointer (some ⟨S, 0, none⟩), .slice ba bn bc] w fun r w' => TakeB O w S T v u xs ys M a most j l fv w' ∧ r = .returned (.tuple #[]) := by
  obtain ⟨n, hn⟩ : ∃ n, n = xs.length := ⟨_, rfl⟩
  obtain ⟨va, vc, rfl, _, _, hvc⟩ := hs.ob.seg
  rw [← hn] at h hs hvc hl hvS ⊢
  obtain ⟨c0, c1, c2, _⟩ := h.cells
  have t0 : w.cell? ⟨T, 0, none⟩ = some (.slice va n vc) := hs.bk.cell 0
  have hnn : ¬ ((n : Int) < (n : Int)) := by omega
  have HK : Hid (∀ W, w.grownBy W (Value.slice va n vc).ownBlock → W.cell? ⟨S, 0, none⟩ = some (.pointer (some ⟨T, 0, none⟩)) ∧ W.cell? ⟨T, 0, none⟩ = some (.slice va n vc) ∧ W.frozen? ⟨T, 0, none⟩ = false) := fun W hg => by
    have hb := Bk.grew hs.bk hg hs.n1
    exact ⟨(Bk.grew h hg hvS).cell 0, hb.cell 0, frozen_of_row W T 0 _ _ hb⟩
  have HR : Hid (∀ W, w.grownBy W none → Own 0 W (.slice va n vc) n xs ∧ Seg .u8 W ba bn ys) := fun W hg => by
    have hG0 : Gr (fun _ => False) w W := Gr.of hg (by simp)
    have := own_gr hs.ob hG0 (fun _ _ z => z)
    rw [← hn] at this
    exact ⟨this, hb.gr hG0 (fun _ _ _ _ z => z)⟩
  have HE : Hid (∀ W1 W2 W3 a' c', w.grownBy W1 none → W1.grownBy W2 (Value.slice va n vc).ownBlock → Own 0 W2 (.slice a' (n + bn) c') (n + bn) (xs ++ ys) → ((Value.slice a' (n + bn) c').ownBlock = (Value.slice va n vc).ownBlock ∨ (Value.slice a' (n + bn) c').ownBlock = some W1.heap.size) → W3 = (W2.setCell ⟨T, 0, none⟩ (.slice a' (n + bn) c')).setCell ⟨S, 2, none⟩ (.int .i64 ((n : Int) + (bn : Int))) → TakeB O w S T (.slice va n vc) u xs ys M a most j l fv W3) := by
    intro W1 W2 W3 a' c' k1 k2 k3 k4 k5
    subst k5
    have hG1 : Gr (fun _ => False) w W1 := Gr.of k1 (by simp)
    have hG2 : Gr (fun k => (Value.slice va n vc).ownBlock = some k) W1 W2 := Gr.of k2 (fun k hk => .inl hk)
    have hTw : T < w.heap.size := lt_of_block hs.bk
    have hSw : S < w.heap.size := lt_of_block h
    have hs1 := k1.size
    have hlen : (xs ++ ys).length = n + bn := by rw [List.length_append, ← hn, hb.1]
    have hvb : ∀ k, (Value.slice a' (n + bn) c').ownBlock = some k → (Value.slice va n vc).ownBlock = some k ∨ w.heap.size ≤ k := fun k hk => by
      rcases k4 with z | z
      · exact .inl (by rw [← z]; exact hk)
      · rw [z] at hk; cases hk; exact .inr hs1
    have hnT : (Value.slice a' (n + bn) c').ownBlock ≠ some T := fun e => by
      rcases hvb T e with z | z
      · exact hs.n1 z
      · omega
    have hnS : (Value.slice a' (n + bn) c').ownBlock ≠ some S := fun e => by
      rcases hvb S e with z | z
      · exact hvS z
      · omega
    have hbk2 : Bk 49 W2 T #[.slice va n vc, u] := (hs.bk.gr hG1 (fun z => z)).gr hG2 hs.n1
    have hsp2 : Sp W2 S T a n most j l fv := (Sp.gr h hG1 (fun z => z)).gr hG2 hvS
    have hm2 := own_gr (own_gr hs.om hG1 (fun _ _ z => z)) hG2 (fun b hb2 e => hs.n3 b e hb2)
    have hA : Gr (fun k => k = T) W2 (W2.setCell ⟨T, 0, none⟩ (.slice a' (n + bn) c')) := (Gr.refl (fun k => k = T) W2).set T 0 rfl _
    have hB : Gr (fun k => k = S) (W2.setCell ⟨T, 0, none⟩ (.slice a' (n + bn) c')) ((W2.setCell ⟨T, 0, none⟩ (.slice a' (n + bn) c')).setCell ⟨S, 2, none⟩ (.int .i64 ((n : Int) + (bn : Int)))) := (Gr.refl (fun k => k = S) _).set S 2 rfl _
    refine ⟨.slice a' (n + bn) c', ?_, ⟨?_, ?_, ?_, ?_, bytes_append hs.hx hby, hnT, hs.n2, ?_, ⟨hs.oT, hTw⟩, ?_, fun k hk => ⟨hs.ou k hk, (own_lt hs.om k hk).2⟩⟩, ?_, ?_⟩
    · have := Bk.set (hsp2.gr hA hST) 2 (.int .i64 ((n : Int) + (bn : Int)))
      rw [hlen, show ((n + bn : Nat) : Int) = (n : Int) + (bn : Int) from by omega]
      exact this
    · exact (Bk.set hbk2 0 (.slice a' (n + bn) c')).gr hB (fun e => hST e.symm)
    · rw [hlen]
      exact own_gr (own_gr k3 hA (fun b hb2 e => hnT (by rw [hb2, e]))) hB (fun b hb2 e => hnS (by rw [hb2, e]))
    · rw [mks_app xs ys M hs.hM]
      exact own_gr (own_gr hm2 hA (fun b hb2 e => hs.n2 (by rw [hb2, e]))) hB (fun b hb2 e => huS (by rw [hb2, e]))
    · have := hs.hM; rw [List.length_append]; omega
    · intro k hk e
      rcases hvb k hk with z | z
      · exact hs.n3 k z e
      · have := (own_lt hs.om k e).2; omega
    · intro k hk z
      rcases hvb k hk with z2 | z2
      · exact hs.ov k z2 z.1
      · omega
    · rcases k4 with z | z
      · exact .inl z
      · exact .inr (.inr (fun k hk => by rw [z] at hk; cases hk; exact hs1))
    · refine ((((Gr.refl _ w).then hG1 (fun _ _ z => z.elim)).then hG2 (fun i _ z => .inr (.inr z))).then hA (fun i _ z => .inr (.inl z))).then hB (fun i _ z => .inl z)
  have HS2 : Hid (∀ W2 : World, ∀ x y, Bk 51 W2 S #[.pointer (some ⟨T, 0, none⟩), .int .i64 (a : Int), .int .i64 (n : Int), .int .i64 most, .int .i64 j, .int .i64 l, fv] → (W2.setCell ⟨T, x, none⟩ y).cell? ⟨S, 0, none⟩ = some (.pointer (some ⟨T, 0, none⟩)) ∧ (W2.setCell ⟨T, x, none⟩ y).cell? ⟨S, 2, none⟩ = some (.int .i64 (n : Int)) ∧ (W2.setCell ⟨T, x, none⟩ y).frozen? ⟨S, 2, none⟩ = false) := fun W2 x y hb2 => by
    have := Bk.gr hb2 ((Gr.refl (fun k => k = T) W2).set T x rfl y) hST
    exact ⟨this.cell 0, this.cell 2, frozen_of_row _ S 2 _ _ this⟩
  have HSK : Hid (∀ W, w.grownBy W (Value.slice va n vc).ownBlock → Bk 51 W S #[.pointer (some ⟨T, 0, none⟩), .int .i64 (a : Int), .int .i64 (n : Int), .int .i64 most, .int .i64 j, .int .i64 l, fv] ∧ Bk 49 W T #[.slice va n vc, u]) := fun W hg => ⟨Bk.grew h hg hvS, Bk.grew hs.bk hg hs.n1⟩
  clear h hs hvS huS hb hby hn
  go_enter Tryd.func17, Tryd.ntmps17
  go_wp2_with fail
  go_quiet (fail)
  go_wp2_with fail
  generalize hW0 : World.drewN w _ = W0
  have HW0 : Hid (w.grownBy W0 none) := by rw [← hW0]; exact drewN_gb w _
  clear hW0
  have HK2 : Hid (∀ W, W0.grownBy W (Value.slice va n vc).ownBlock → W.cell? ⟨S, 0, none⟩ = some (.pointer (some ⟨T, 0, none⟩)) ∧ W.cell? ⟨T, 0, none⟩ = some (.slice va n vc) ∧ W.frozen? ⟨T, 0, none⟩ = false) := fun W hg => HK.out W (gb_trans (gb_wide HW0.out _) hg)
  have HR2 : Hid (∀ W, W0.grownBy W none → Own 0 W (.slice va n vc) n xs ∧ Seg .u8 W ba bn ys) := fun W hg => HR.out W (gb_trans HW0.out hg)
  have HNZ : Hid (ba = none → bc = 0) := hnz
  clear hnz c0 c1 c2 t0
  refine wp_region_lastB (fun a b => World.grownBy a b (Value.slice va n vc).ownBlock) (fun a b => World.grownBy a b none) (fun a b => World.grownBy a b (Value.slice va n vc).ownBlock) (fun _ _ _ h k => gb_trans h k) (fun _ _ h => gb_wide h _) (fun _ _ h => h) ⟨rfl, rfl, rfl, Nat.le_refl _, fun _ _ _ => rfl⟩ (fun _ _ _ h k => gb_trans h k) ⟨rfl, rfl, rfl, Nat.le_refl _, fun _ _ _ => rfl⟩ 15 12 rfl (by kernel_rfl) [29, 30, 31, 32, 33, 34, 35, 36, 37, 38, 39, 40, 41, 42, 43, 100015] [[], [0], [1], [2], [], [4], [5], [6], [7], [8], [9], [], [10, 11], [3], [13], [14, 12]] (by kernel_rfl) (by kernel_rfl) [] (by kernel_rfl) [fun u W => u = .pointer (some ⟨S, 0, none⟩), fun u W => u = .pointer (some ⟨S, 0, none⟩), fun u W => u = .pointer (some ⟨S, 0, none⟩), fun u W => u = .pointer (some ⟨T, 0, none⟩), fun u W => u = .pointer (some ⟨S, 0, none⟩), fun u W => u = .pointer (some ⟨S, 0, none⟩), fun u W => u = .pointer (some ⟨S, 0, none⟩), fun u W => u = .pointer (some ⟨T, 0, none⟩), fun u W => u = .pointer (some ⟨T, 0, none⟩), fun u W => u = .pointer (some ⟨T, 0, none⟩), fun u W => u = .slice va n vc, fun u W => u = .slice ba bn bc, fun u Wo => ∃ a' c' W1, u = .slice a' (n + bn) c' ∧ Own 0 Wo (.slice a' (n + bn) c') (n + bn) (xs ++ ys) ∧ w.grownBy W1 none ∧ W1.grownBy Wo (Value.slice va n vc).ownBlock ∧ ((Value.slice a' (n + bn) c').ownBlock = (Value.slice va n vc).ownBlock ∨ (Value.slice a' (n + bn) c').ownBlock = some W1.heap.size), fun u W => u = .pointer (some ⟨T, 0, none⟩), fun u W => u = .pointer (some ⟨T, 0, none⟩)] ?stable ?stableA ?step ?last
  case stable =>
    intro i v W W' h hg
    match i, h with
    | 0, h => exact h
    | 1, h => exact h
    | 2, h => exact h
    | 3, h => exact h
    | 4, h => exact h
    | 5, h => exact h
    | 6, h => exact h
    | 7, h => exact h
    | 8, h => exact h
    | 9, h => exact h
    | 10, h => exact h
    | 11, h => exact h
    | 12, h => obtain ⟨a', c', W1, h1, h2, h3, h4, h5⟩ := h; exact ⟨a', c', W1, h1, own_gr h2 (Gr.of (G := fun _ => False) hg (by simp)) (fun _ _ z => z), h3, gb_trans h4 (gb_wide hg _), h5⟩
    | 13, h => exact h
    | 14, h => exact h
    | i + 15, h => exact trivial
  case stableA =>
    intro i v W W' hne hnu h hg
    match i, hne, h with
    | 0, _, h => exact h
    | 1, _, h => exact h
    | 2, _, h => exact h
    | 3, _, h => exact h
    | 4, _, h => exact h
    | 5, _, h => exact h
    | 6, _, h => exact h
    | 7, _, h => exact h
    | 8, _, h => exact h
    | 9, _, h => exact h
    | 10, _, h => exact h
    | 11, _, h => exact h
    | 12, hne, _ => exact absurd rfl hne
    | 13, _, h => exact h
    | 14, _, h => exact h
    | i + 15, _, h => exact trivial
  case step =>
    intro f W A hA hg i o hin ho hu K hK
    match i, hin, ho, hu, hK with
    | 0, hin, ho, hu, hK =>
      cases ho
      have e0 : A.eval (.tmp 0) = .pointer (some ⟨S, 0, none⟩) := ev_out hA 0 rfl
      exact ph_move _ rfl rfl (.pointer (some ⟨S, 0, none⟩)) e0 (hK _ _ (gb_rr W _) rfl)
    | 1, hin, ho, hu, hK =>
      cases ho
      have e29 : A.eval (.tmp 29) = .pointer (some ⟨S, 0, none⟩) := (ev_in hA 29 0 rfl rfl rfl).trans (show f 0 = .pointer (some ⟨S, 0, none⟩) from hu 0 (by decide))
      exact ph_nil _ rfl rfl _ e29 (hK _ _ (gb_rr W _) rfl)
    | 2, hin, ho, hu, hK =>
      cases ho
      have e30 : A.eval (.tmp 30) = .pointer (some ⟨S, 0, none⟩) := (ev_in hA 30 1 rfl rfl rfl).trans (show f 1 = .pointer (some ⟨S, 0, none⟩) from hu 1 (by decide))
      exact ph_field _ _ _ rfl rfl _ (.pointer (some ⟨S, 0, none⟩)) e30 (by kernel_rfl) (hK _ _ (gb_rr W _) rfl)
    | 3, hin, ho, hu, hK =>
      cases ho
      have e31 : A.eval (.tmp 31) = .pointer (some ⟨S, 0, none⟩) := (ev_in hA 31 2 rfl rfl rfl).trans (show f 2 = .pointer (some ⟨S, 0, none⟩) from hu 2 (by decide))
      have hc : W.cell? ⟨S, 0, none⟩ = some (.pointer (some ⟨T, 0, none⟩)) := (HK2.out W hg).1
      refine ph_sem rfl rfl (r := .ok (.value (.pointer (some ⟨T, 0, none⟩))) W) ?_ (hK _ _ (gb_rr W _) rfl)
      have eC : ∀ c, A.eval (.const c) = c := fun _ => rfl; have eF : ∀ g, A.eval (.func g) = .func (.func g) #[] #[] := fun _ => rfl; generalize A.eval = ρ at *
      clear hA hu hg hK hin
      go_simp
    | 4, hin, ho, hu, hK =>
      cases ho
      have e0 : A.eval (.tmp 0) = .pointer (some ⟨S, 0, none⟩) := ev_out hA 0 rfl
      exact ph_move _ rfl rfl (.pointer (some ⟨S, 0, none⟩)) e0 (hK _ _ (gb_rr W _) rfl)
    | 5, hin, ho, hu, hK =>
      cases ho
      have e33 : A.eval (.tmp 33) = .pointer (some ⟨S, 0, none⟩) := (ev_in hA 33 4 rfl rfl rfl).trans (show f 4 = .pointer (some ⟨S, 0, none⟩) from hu 4 (by decide))
      exact ph_nil _ rfl rfl _ e33 (hK _ _ (gb_rr W _) rfl)
    | 6, hin, ho, hu, hK =>
      cases ho
      have e34 : A.eval (.tmp 34) = .pointer (some ⟨S, 0, none⟩) := (ev_in hA 34 5 rfl rfl rfl).trans (show f 5 = .pointer (some ⟨S, 0, none⟩) from hu 5 (by decide))
      exact ph_field _ _ _ rfl rfl _ (.pointer (some ⟨S, 0, none⟩)) e34 (by kernel_rfl) (hK _ _ (gb_rr W _) rfl)
    | 7, hin, ho, hu, hK =>
      cases ho
      have e35 : A.eval (.tmp 35) = .pointer (some ⟨S, 0, none⟩) := (ev_in hA 35 6 rfl rfl rfl).trans (show f 6 = .pointer (some ⟨S, 0, none⟩) from hu 6 (by decide))
      have hc : W.cell? ⟨S, 0, none⟩ = some (.pointer (some ⟨T, 0, none⟩)) := (HK2.out W hg).1
      refine ph_sem rfl rfl (r := .ok (.value (.pointer (some ⟨T, 0, none⟩))) W) ?_ (hK _ _ (gb_rr W _) rfl)
      have eC : ∀ c, A.eval (.const c) = c := fun _ => rfl; have eF : ∀ g, A.eval (.func g) = .func (.func g) #[] #[] := fun _ => rfl; generalize A.eval = ρ at *
      clear hA hu hg hK hin
      go_simp
    | 8, hin, ho, hu, hK =>
      cases ho
      have e36 : A.eval (.tmp 36) = .pointer (some ⟨T, 0, none⟩) := (ev_in hA 36 7 rfl rfl rfl).trans (show f 7 = .pointer (some ⟨T, 0, none⟩) from hu 7 (by decide))
      exact ph_nil _ rfl rfl _ e36 (hK _ _ (gb_rr W _) rfl)
    | 9, hin, ho, hu, hK =>
      cases ho
      have e37 : A.eval (.tmp 37) = .pointer (some ⟨T, 0, none⟩) := (ev_in hA 37 8 rfl rfl rfl).trans (show f 8 = .pointer (some ⟨T, 0, none⟩) from hu 8 (by decide))
      exact ph_field _ _ _ rfl rfl _ (.pointer (some ⟨T, 0, none⟩)) e37 (by kernel_rfl) (hK _ _ (gb_rr W _) rfl)
    | 10, hin, ho, hu, hK =>
      cases ho
      have e38 : A.eval (.tmp 38) = .pointer (some ⟨T, 0, none⟩) := (ev_in hA 38 9 rfl rfl rfl).trans (show f 9 = .pointer (some ⟨T, 0, none⟩) from hu 9 (by decide))
      have hc : W.cell? ⟨T, 0, none⟩ = some (.slice va n vc) := (HK2.out W hg).2.1
      refine ph_sem rfl rfl (r := .ok (.value (.slice va n vc)) W) ?_ (hK _ _ (gb_rr W _) rfl)
      have eC : ∀ c, A.eval (.const c) = c := fun _ => rfl; have eF : ∀ g, A.eval (.func g) = .func (.func g) #[] #[] := fun _ => rfl; generalize A.eval = ρ at *
      clear hA hu hg
      go_simp
    | 11, hin, ho, hu, hK =>
      cases ho
      have e1 : A.eval (.tmp 1) = .slice ba bn bc := ev_out hA 1 rfl
      exact ph_move _ rfl rfl (.slice ba bn bc) e1 (hK _ _ (gb_rr W _) rfl)
    | 12, hin, ho, hu, hK =>
      cases ho
      have e39 : A.eval (.tmp 39) = .slice va n vc := (ev_in hA 39 10 rfl rfl rfl).trans (show f 10 = .slice va n vc from hu 10 (by decide))
      have e40 : A.eval (.tmp 40) = .slice ba bn bc := (ev_in hA 40 11 rfl rfl rfl).trans (show f 11 = .slice ba bn bc from hu 11 (by decide))
      have q0 := HR2.out W (hin.2 (.inl rfl))
      refine ph_cat rfl (.tmp 39) (.tmp 40) rfl n _ xs e39 q0.1 ba bn bc ys e40 HNZ.out q0.2 (by omega) ?_
      intro v' W2 k1 k2 k3
      obtain ⟨a', c', rfl, _⟩ := k1.seg
      exact hK _ _ k2 ⟨a', c', W, rfl, k1, gb_trans HW0.out (hin.2 (.inl rfl)), k2, k3⟩
    | 13, hin, ho, hu, hK =>
      cases ho
      have e32 : A.eval (.tmp 32) = .pointer (some ⟨T, 0, none⟩) := (ev_in hA 32 3 rfl rfl rfl).trans (show f 3 = .pointer (some ⟨T, 0, none⟩) from hu 3 (by decide))
      exact ph_nil _ rfl rfl _ e32 (hK _ _ (gb_rr W _) rfl)
    | 14, hin, ho, hu, hK =>
      cases ho
      have e42 : A.eval (.tmp 42) = .pointer (some ⟨T, 0, none⟩) := (ev_in hA 42 13 rfl rfl rfl).trans (show f 13 = .pointer (some ⟨T, 0, none⟩) from hu 13 (by decide))
      exact ph_field _ _ _ rfl rfl _ (.pointer (some ⟨T, 0, none⟩)) e42 (by kernel_rfl) (hK _ _ (gb_rr W _) rfl)
    | i + 15, hin, ho, hu, hK => omega
  case last =>
    intro f W A hA hg hu o ho K hK
    cases ho
    obtain ⟨a', c', W1, hv12, ho12, hw12, hx12, hG12⟩ := hu 12 (by decide)
    have e41 : A.eval (.tmp 41) = (.slice a' (n + bn) c') := (ev_in hA 41 12 rfl rfl rfl).trans hv12
    have e43 : A.eval (.tmp 43) = .pointer (some ⟨T, 0, none⟩) := (ev_in hA 43 14 rfl rfl rfl).trans (show f 14 = .pointer (some ⟨T, 0, none⟩) from hu 14 (by decide))
    have hcc : W.cell? ⟨T, 0, none⟩ = some (.slice va n vc) := (HK2.out W hg).2.1
    have hff : W.frozen? ⟨T, 0, none⟩ = false := (HK2.out W hg).2.2
    refine ph_sem rfl rfl (r := .ok .skip (W.setCell ⟨T, 0, none⟩ (.slice a' (n + bn) c'))) ?_ (hK _ _ ?_)
    · have eC : ∀ c, A.eval (.const c) = c := fun _ => rfl
      generalize A.eval = ρ at *
      clear hA hu hg hK
      go_simp
    have q8 := HSK.out W (gb_trans (gb_wide HW0.out _) hg)
    have q9 := HS2.out W 0 (.slice a' (n + bn) c') q8.1
    have t9 : (W.setCell ⟨T, 0, none⟩ (.slice a' (n + bn) c')).cell? ⟨T, 0, none⟩ = some (.slice a' (n + bn) c') := (Bk.set q8.2 0 (.slice a' (n + bn) c')).cell 0
    have HF : Hid _ := HE.out W1 W _ a' c' hw12 hx12 ho12 hG12 rfl
    have hA2 := hA.trans (putAll_lit [(.pointer (some ⟨S, 0, none⟩)), (.pointer (some ⟨S, 0, none⟩)), (.pointer (some ⟨S, 0, none⟩)), (.pointer (some ⟨T, 0, none⟩)), (.pointer (some ⟨S, 0, none⟩)), (.pointer (some ⟨S, 0, none⟩)), (.pointer (some ⟨S, 0, none⟩)), (.pointer (some ⟨T, 0, none⟩)), (.pointer (some ⟨T, 0, none⟩)), (.pointer (some ⟨T, 0, none⟩)), (.slice va n vc), (.slice ba bn bc), ((.slice a' (n + bn) c')), (.pointer (some ⟨T, 0, none⟩)), (.pointer (some ⟨T, 0, none⟩)), (f 15)] (by
      intro j hj
      match j, hj with
      | 0, _ => exact hu 0 (by decide)
      | 1, _ => exact hu 1 (by decide)
      | 2, _ => exact hu 2 (by decide)
      | 3, _ => exact hu 3 (by decide)
      | 4, _ => exact hu 4 (by decide)
      | 5, _ => exact hu 5 (by decide)
      | 6, _ => exact hu 6 (by decide)
      | 7, _ => exact hu 7 (by decide)
      | 8, _ => exact hu 8 (by decide)
      | 9, _ => exact hu 9 (by decide)
      | 10, _ => exact hu 10 (by decide)
      | 11, _ => exact hu 11 (by decide)
      | 12, _ => exact hv12
      | 13, _ => exact hu 13 (by decide)
      | 14, _ => exact hu 14 (by decide)
      | 15, _ => rfl
      | j + 16, hj => exact absurd hj (by simp)))
    clear hu hA
    subst hA2
    simp only [putAll, putL, List.mem_cons, List.not_mem_nil, List.idxOf_cons, Nat.reduceEqDiff, Nat.reduceBEq, Nat.reduceAdd, or_false, or_true, reduceIte, cond_true, cond_false, List.getD_cons_zero, List.getD_cons_succ, BEq.rfl]
    obtain ⟨s0, s2, f2⟩ := q9
    clear e41 e43 hcc hff hg ho12 hw12 hx12 hG12 hv12 q8 HE HK HK2 HR HR2 HS2 HSK
    generalize W.setCell ⟨T, 0, none⟩ (.slice a' (n + bn) c') = W9 at HF s0 s2 f2 t9 ⊢
    go_wp2
    go_end0
    exact ⟨HF.out, rfl⟩
/-- What leave leaves. -/
def LeaveB (O : Nat → Prop) (w : World) (S : Nat) (v : Value) (xs : List Int) (a : Nat) (most j l : Int) (fv : Value) (w' : World) : Prop :=
  ∃ O' T' v' u' xs' M' a', Sp w' S T' (a' : Nat) xs'.length most j l fv ∧ Str O' w' T' v' u' xs' M' ∧ a' ≤ xs'.length ∧ a' ≤ xs'.length - a' ∧ xs'.drop a' = xs.drop a ∧ (∀ k, O' k → O k ∨ w.heap.size ≤ k) ∧ (∀ k, v'.ownBlock = some k → v.ownBlock = some k ∨ w.heap.size ≤ k) ∧ Gr (fun k => k = S) w w'
set_option maxRecDepth 20000 in
set_option maxHeartbeats 2000000 in
theorem leave_c (O : Nat → Prop) (S T : Nat) (v u : Value) (xs : List Int) (M a : Nat) (most j l : Int) (fv : Value) (w : World) (h : Sp w S T a xs.length most j l fv) (hs : Str O w T v u xs M) (ha : a ≤ xs.length) (hl : xs.length ≤ 1099511627776) :
    Calls Tryd.prog 19 #[.pointer (some ⟨S, 0, none⟩)] w fun r w' => LeaveB O w S v xs a most j l fv w' ∧ r = .returned (.tuple #[]) := by
  obtain ⟨n, hn⟩ : ∃ n, n = xs.length := ⟨_, rfl⟩
  obtain ⟨va, vc, rfl, _, _, hvc⟩ := hs.ob.seg
  rw [← hn] at h hs hvc ha hl
  obtain ⟨d, hd⟩ : ∃ d, d = n - a := ⟨_, rfl⟩
  have hW := waits_c S T a n most j l fv w h ⟨by omega, by omega⟩ (by omega)
  rw [show (n : Int) - (a : Int) = (d : Int) from by omega] at hW
  replace hW : Hid _ := hW
  have HR : Hid (∀ W, w.grownBy W none → Sp W S T a n most j l fv ∧ Str O W T (.slice va n vc) u xs M) := fun W hg => by
    have hG0 : Gr (fun _ => False) w W := Gr.of hg (by simp)
    exact ⟨Sp.gr h hG0 (fun z => z), hs.gr hG0 (fun _ _ z => z)⟩
  have HN : Hid (n = xs.length ∧ d = n - a) := ⟨hn, hd⟩
  by_cases hc : d < a
  · have hci : (d : Int) < (a : Int) := by omega
    have HFR : Hid (∀ W, w.grownBy W none → Calls Tryd.prog 32 #[.pointer (some ⟨T, 0, none⟩), .int .i64 (a : Int), .int .i64 (n : Int)] W fun r w' => ∃ T' va' vc', r = .returned (.pointer (some ⟨T', 0, none⟩)) ∧ (Bk 49 w' T' #[.slice va' d vc', .slice none 0 0] ∧ Own w.heap.size w' (.slice va' d vc') d (xs.drop a) ∧ w.heap.size ≤ T' ∧ (Value.slice va' d vc').ownBlock ≠ some T') ∧ W.grownBy w' none) := fun W hg => by
      have q := (HR.out W hg).2
      have qo := q.ob
      rw [← hn] at qo
      refine (from_c T n vc a n va u xs W q.bk qo ha (Nat.le_refl _) hl).mono ?_
      rintro r w' ⟨T', va', vc', r1, r2, r3, r4, r5, r6⟩
      have e1 : (xs.take n).drop a = xs.drop a := by rw [List.take_of_length_le (by omega)]
      have e2 : (xs.drop a).length = d := by rw [List.length_drop]; omega
      rw [e1, e2] at r2 r3 r5
      exact ⟨T', va', vc', r1, ⟨r2, Own.base r3 hg.size, Nat.le_trans hg.size r4, r5⟩, gb_of r6⟩
    have HBX : Hid (Bytes (xs.drop a)) := hs.hx.drop _
    have HSw : Hid (S < w.heap.size) := lt_of_block h
    clear h hs hn hd hvc ha
    go_enter Tryd.func19, Tryd.ntmps19
    go_wp2_with (go_at_call 34; go_must (refine (Calls.mono hW.out ?_)); rintro r w1 ⟨rfl, h1, h2⟩; have H1 : Hid (Sp w1 S T a n most j l fv ∧ w.grownBy w1 none) := ⟨h1, h2⟩; obtain ⟨_, c1, _⟩ := h1.cells; clear h1 h2)
    clear c1
    have HK2 : Hid (∀ W, w1.grownBy W none → Sp W S T a n most j l fv) := fun W hg => (HR.out W (gb_trans H1.out.2 hg)).1
    refine wp_region_lastR (fun a b => World.grownBy a b none) (fun _ _ _ h k => gb_trans h k) ⟨rfl, rfl, rfl, Nat.le_refl _, fun _ _ _ => rfl⟩ 16 rfl (by kernel_rfl) [11, 12, 13, 14, 15, 16, 17, 18, 19, 20, 21, 22, 23, 24, 25, 26, 100016] [[], [], [1], [2], [3], [], [5], [6], [7], [], [9], [10], [11], [4, 8, 12], [0], [14], [15, 13]] (by kernel_rfl) (by kernel_rfl) [fun u W => u = .pointer (some ⟨S, 0, none⟩), fun u W => u = .pointer (some ⟨S, 0, none⟩), fun u W => u = .pointer (some ⟨S, 0, none⟩), fun u W => u = .pointer (some ⟨S, 0, none⟩), fun u W => u = .pointer (some ⟨T, 0, none⟩), fun u W => u = .pointer (some ⟨S, 0, none⟩), fun u W => u = .pointer (some ⟨S, 0, none⟩), fun u W => u = .pointer (some ⟨S, 1, none⟩), fun u W => u = .int .i64 (a : Int), fun u W => u = .pointer (some ⟨S, 0, none⟩), fun u W => u = .pointer (some ⟨S, 0, none⟩), fun u W => u = .pointer (some ⟨S, 2, none⟩), fun u W => u = .int .i64 (n : Int), fun u Wo => ∃ T' va' vc', u = .pointer (some ⟨T', 0, none⟩) ∧ (Bk 49 Wo T' #[.slice va' d vc', .slice none 0 0] ∧ Own w.heap.size Wo (.slice va' d vc') d (xs.drop a) ∧ w.heap.size ≤ T' ∧ (Value.slice va' d vc').ownBlock ≠ some T'), fun u W => u = .pointer (some ⟨S, 0, none⟩), fun u W => u = .pointer (some ⟨S, 0, none⟩)] ?stable ?step ?last
    case stable =>
      intro i v W W' h hg
      match i, h with
      | 0, h => exact h
      | 1, h => exact h
      | 2, h => exact h
      | 3, h => exact h
      | 4, h => exact h
      | 5, h => exact h
      | 6, h => exact h
      | 7, h => exact h
      | 8, h => exact h
      | 9, h => exact h
      | 10, h => exact h
      | 11, h => exact h
      | 12, h => exact h
      | 13, h => obtain ⟨T', va', vc', h1, h2, h3, h4, h5⟩ := h; exact ⟨T', va', vc', h1, Bk.grew h2 hg (by simp), own_gr h3 (Gr.of (G := fun _ => False) hg (by simp)) (fun _ _ z => z), h4, h5⟩
      | 14, h => exact h
      | 15, h => exact h
      | i + 16, h => exact trivial
    case step =>
      intro f W A hA hg i o hin ho hu K hK
      match i, hin, ho, hu, hK with
      | 0, hin, ho, hu, hK =>
        cases ho
        have e0 : A.eval (.tmp 0) = .pointer (some ⟨S, 0, none⟩) := ev_out hA 0 rfl
        exact ph_move _ rfl rfl (.pointer (some ⟨S, 0, none⟩)) e0 (hK _ _ (gb_rr W _) rfl)
      | 1, hin, ho, hu, hK =>
        cases ho
        have e0 : A.eval (.tmp 0) = .pointer (some ⟨S, 0, none⟩) := ev_out hA 0 rfl
        exact ph_move _ rfl rfl (.pointer (some ⟨S, 0, none⟩)) e0 (hK _ _ (gb_rr W _) rfl)
      | 2, hin, ho, hu, hK =>
        cases ho
        have e12 : A.eval (.tmp 12) = .pointer (some ⟨S, 0, none⟩) := (ev_in hA 12 1 rfl rfl rfl).trans (show f 1 = .pointer (some ⟨S, 0, none⟩) from hu 1 (by decide))
        exact ph_nil _ rfl rfl _ e12 (hK _ _ (gb_rr W _) rfl)
      | 3, hin, ho, hu, hK =>
        cases ho
        have e13 : A.eval (.tmp 13) = .pointer (some ⟨S, 0, none⟩) := (ev_in hA 13 2 rfl rfl rfl).trans (show f 2 = .pointer (some ⟨S, 0, none⟩) from hu 2 (by decide))
        exact ph_field _ _ _ rfl rfl _ (.pointer (some ⟨S, 0, none⟩)) e13 (by kernel_rfl) (hK _ _ (gb_rr W _) rfl)
      | 4, hin, ho, hu, hK =>
        cases ho
        have e14 : A.eval (.tmp 14) = .pointer (some ⟨S, 0, none⟩) := (ev_in hA 14 3 rfl rfl rfl).trans (show f 3 = .pointer (some ⟨S, 0, none⟩) from hu 3 (by decide))
        have hc : W.cell? ⟨S, 0, none⟩ = some (.pointer (some ⟨T, 0, none⟩)) := (HK2.out W hg).cells.1
        refine ph_sem rfl rfl (r := .ok (.value (.pointer (some ⟨T, 0, none⟩))) W) ?_ (hK _ _ (gb_rr W _) rfl)
        have eC : ∀ c, A.eval (.const c) = c := fun _ => rfl; have eF : ∀ g, A.eval (.func g) = .func (.func g) #[] #[] := fun _ => rfl; generalize A.eval = ρ at *
        clear hA hu hg hK hin
        go_simp
      | 5, hin, ho, hu, hK =>
        cases ho
        have e0 : A.eval (.tmp 0) = .pointer (some ⟨S, 0, none⟩) := ev_out hA 0 rfl
        exact ph_move _ rfl rfl (.pointer (some ⟨S, 0, none⟩)) e0 (hK _ _ (gb_rr W _) rfl)
      | 6, hin, ho, hu, hK =>
        cases ho
        have e16 : A.eval (.tmp 16) = .pointer (some ⟨S, 0, none⟩) := (ev_in hA 16 5 rfl rfl rfl).trans (show f 5 = .pointer (some ⟨S, 0, none⟩) from hu 5 (by decide))
        exact ph_nil _ rfl rfl _ e16 (hK _ _ (gb_rr W _) rfl)
      | 7, hin, ho, hu, hK =>
        cases ho
        have e17 : A.eval (.tmp 17) = .pointer (some ⟨S, 0, none⟩) := (ev_in hA 17 6 rfl rfl rfl).trans (show f 6 = .pointer (some ⟨S, 0, none⟩) from hu 6 (by decide))
        exact ph_field _ _ _ rfl rfl _ (.pointer (some ⟨S, 1, none⟩)) e17 (by kernel_rfl) (hK _ _ (gb_rr W _) rfl)
      | 8, hin, ho, hu, hK =>
        cases ho
        have e18 : A.eval (.tmp 18) = .pointer (some ⟨S, 1, none⟩) := (ev_in hA 18 7 rfl rfl rfl).trans (show f 7 = .pointer (some ⟨S, 1, none⟩) from hu 7 (by decide))
        have hc : W.cell? ⟨S, 1, none⟩ = some (.int .i64 (a : Int)) := (HK2.out W hg).cells.2.1
        refine ph_sem rfl rfl (r := .ok (.value (.int .i64 (a : Int))) W) ?_ (hK _ _ (gb_rr W _) rfl)
        have eC : ∀ c, A.eval (.const c) = c := fun _ => rfl; have eF : ∀ g, A.eval (.func g) = .func (.func g) #[] #[] := fun _ => rfl; generalize A.eval = ρ at *
        clear hA hu hg
        go_simp
      | 9, hin, ho, hu, hK =>
        cases ho
        have e0 : A.eval (.tmp 0) = .pointer (some ⟨S, 0, none⟩) := ev_out hA 0 rfl
        exact ph_move _ rfl rfl (.pointer (some ⟨S, 0, none⟩)) e0 (hK _ _ (gb_rr W _) rfl)
      | 10, hin, ho, hu, hK =>
        cases ho
        have e20 : A.eval (.tmp 20) = .pointer (some ⟨S, 0, none⟩) := (ev_in hA 20 9 rfl rfl rfl).trans (show f 9 = .pointer (some ⟨S, 0, none⟩) from hu 9 (by decide))
        exact ph_nil _ rfl rfl _ e20 (hK _ _ (gb_rr W _) rfl)
      | 11, hin, ho, hu, hK =>
        cases ho
        have e21 : A.eval (.tmp 21) = .pointer (some ⟨S, 0, none⟩) := (ev_in hA 21 10 rfl rfl rfl).trans (show f 10 = .pointer (some ⟨S, 0, none⟩) from hu 10 (by decide))
        exact ph_field _ _ _ rfl rfl _ (.pointer (some ⟨S, 2, none⟩)) e21 (by kernel_rfl) (hK _ _ (gb_rr W _) rfl)
      | 12, hin, ho, hu, hK =>
        cases ho
        have e22 : A.eval (.tmp 22) = .pointer (some ⟨S, 2, none⟩) := (ev_in hA 22 11 rfl rfl rfl).trans (show f 11 = .pointer (some ⟨S, 2, none⟩) from hu 11 (by decide))
        have hc : W.cell? ⟨S, 2, none⟩ = some (.int .i64 (n : Int)) := (HK2.out W hg).cells.2.2.1
        refine ph_sem rfl rfl (r := .ok (.value (.int .i64 (n : Int))) W) ?_ (hK _ _ (gb_rr W _) rfl)
        have eC : ∀ c, A.eval (.const c) = c := fun _ => rfl; have eF : ∀ g, A.eval (.func g) = .func (.func g) #[] #[] := fun _ => rfl; generalize A.eval = ρ at *
        clear hA hu hg
        go_simp
      | 13, hin, ho, hu, hK =>
        cases ho
        have e15 : A.eval (.tmp 15) = .pointer (some ⟨T, 0, none⟩) := (ev_in hA 15 4 rfl rfl rfl).trans (show f 4 = .pointer (some ⟨T, 0, none⟩) from hu 4 (by decide))
        have e19 : A.eval (.tmp 19) = .int .i64 (a : Int) := (ev_in hA 19 8 rfl rfl rfl).trans (show f 8 = .int .i64 (a : Int) from hu 8 (by decide))
        have e23 : A.eval (.tmp 23) = .int .i64 (n : Int) := (ev_in hA 23 12 rfl rfl rfl).trans (show f 12 = .int .i64 (n : Int) from hu 12 (by decide))
        refine ph_fn 32 _ _ rfl rfl #[.pointer (some ⟨T, 0, none⟩), .int .i64 (a : Int), .int .i64 (n : Int)] (by simp [e15, e19, e23]) (by kernel_rfl) ?_
        refine (Calls.mono (HFR.out W (gb_trans H1.out.2 hg)) ?_)
        rintro e W' ⟨T', va', vc', rfl, k1, hq⟩
        exact ⟨_, rfl, hK _ _ hq ⟨T', va', vc', rfl, k1⟩⟩
      | 14, hin, ho, hu, hK =>
        cases ho
        have e11 : A.eval (.tmp 11) = .pointer (some ⟨S, 0, none⟩) := (ev_in hA 11 0 rfl rfl rfl).trans (show f 0 = .pointer (some ⟨S, 0, none⟩) from hu 0 (by decide))
        exact ph_nil _ rfl rfl _ e11 (hK _ _ (gb_rr W _) rfl)
      | 15, hin, ho, hu, hK =>
        cases ho
        have e25 : A.eval (.tmp 25) = .pointer (some ⟨S, 0, none⟩) := (ev_in hA 25 14 rfl rfl rfl).trans (show f 14 = .pointer (some ⟨S, 0, none⟩) from hu 14 (by decide))
        exact ph_field _ _ _ rfl rfl _ (.pointer (some ⟨S, 0, none⟩)) e25 (by kernel_rfl) (hK _ _ (gb_rr W _) rfl)
      | i + 16, hin, ho, hu, hK => omega
    case last =>
      intro f W A hA hg hu o ho K hK
      cases ho
      obtain ⟨T', va', vc', hv13, hf1, hf2, hf3, hf4⟩ := hu 13 (by decide)
      have e24 : A.eval (.tmp 24) = .pointer (some ⟨T', 0, none⟩) := (ev_in hA 24 13 rfl rfl rfl).trans hv13
      have e26 : A.eval (.tmp 26) = .pointer (some ⟨S, 0, none⟩) := (ev_in hA 26 15 rfl rfl rfl).trans (show f 15 = .pointer (some ⟨S, 0, none⟩) from hu 15 (by decide))
      have hSP : Sp W S T a n most j l fv := HK2.out W hg
      have hcc : W.cell? ⟨S, 0, none⟩ = some (.pointer (some ⟨T, 0, none⟩)) := hSP.cells.1
      have hff : W.frozen? ⟨S, 0, none⟩ = false := hSP.free 0
      refine ph_sem rfl rfl (r := .ok .skip (W.setCell ⟨S, 0, none⟩ (.pointer (some ⟨T', 0, none⟩)))) ?_ (hK _ _ ?_)
      · have eC : ∀ c, A.eval (.const c) = c := fun _ => rfl
        generalize A.eval = ρ at *
        clear hA hu hg hK hf1 hf2
        go_simp
      have HSP : Hid (Sp (W.setCell ⟨S, 0, none⟩ (.pointer (some ⟨T', 0, none⟩))) S T' a n most j l fv) := Bk.set hSP 0 _
      have HF : Hid ((Bk 49 W T' #[.slice va' d vc', .slice none 0 0] ∧ Own w.heap.size W (.slice va' d vc') d (xs.drop a) ∧ w.heap.size ≤ T' ∧ (Value.slice va' d vc').ownBlock ≠ some T') ∧ Gr (fun k => k = S) w (W.setCell ⟨S, 0, none⟩ (.pointer (some ⟨T', 0, none⟩))) ∧ Gr (fun k => k = S) W (W.setCell ⟨S, 0, none⟩ (.pointer (some ⟨T', 0, none⟩)))) := ⟨⟨hf1, hf2, hf3, hf4⟩, (Gr.of (G := fun k => k = S) (gb_trans H1.out.2 hg) (by simp)).set S 0 rfl _, (Gr.refl (fun k => k = S) W).set S 0 rfl _⟩
      have hA2 := hA.trans (putAll_lit [(.pointer (some ⟨S, 0, none⟩)), (.pointer (some ⟨S, 0, none⟩)), (.pointer (some ⟨S, 0, none⟩)), (.pointer (some ⟨S, 0, none⟩)), (.pointer (some ⟨T, 0, none⟩)), (.pointer (some ⟨S, 0, none⟩)), (.pointer (some ⟨S, 0, none⟩)), (.pointer (some ⟨S, 1, none⟩)), (.int .i64 (a : Int)), (.pointer (some ⟨S, 0, none⟩)), (.pointer (some ⟨S, 0, none⟩)), (.pointer (some ⟨S, 2, none⟩)), (.int .i64 (n : Int)), (.pointer (some ⟨T', 0, none⟩)), (.pointer (some ⟨S, 0, none⟩)), (.pointer (some ⟨S, 0, none⟩)), (f 16)] (by
        intro j hj
        match j, hj with
        | 0, _ => exact hu 0 (by decide)
        | 1, _ => exact hu 1 (by decide)
        | 2, _ => exact hu 2 (by decide)
        | 3, _ => exact hu 3 (by decide)
        | 4, _ => exact hu 4 (by decide)
        | 5, _ => exact hu 5 (by decide)
        | 6, _ => exact hu 6 (by decide)
        | 7, _ => exact hu 7 (by decide)
        | 8, _ => exact hu 8 (by decide)
        | 9, _ => exact hu 9 (by decide)
        | 10, _ => exact hu 10 (by decide)
        | 11, _ => exact hu 11 (by decide)
        | 12, _ => exact hu 12 (by decide)
        | 13, _ => exact hv13
        | 14, _ => exact hu 14 (by decide)
        | 15, _ => exact hu 15 (by decide)
        | 16, _ => rfl
        | j + 17, hj => exact absurd hj (by simp)))
      clear hu hA
      subst hA2
      simp only [putAll, putL, List.mem_cons, List.not_mem_nil, List.idxOf_cons, Nat.reduceEqDiff, Nat.reduceBEq, Nat.reduceAdd, or_false, or_true, reduceIte, cond_true, cond_false, List.getD_cons_zero, List.getD_cons_succ, BEq.rfl]
      clear e24 e26 hSP hcc hff hg hf1 hf2 hf3 hf4 hv13 HK2 HR HFR
      generalize W.setCell ⟨S, 0, none⟩ (.pointer (some ⟨T', 0, none⟩)) = W9 at HSP HF ⊢
      have c1 := HSP.out.cells.2.1
      have f1 := HSP.out.free 1
      have s2 : (W9.setCell ⟨S, 1, none⟩ (.int .i64 0)).cell? ⟨S, 2, none⟩ = some (.int .i64 (n : Int)) := (HSP.out.setAt 0).cells.2.2.1
      have f2 : (W9.setCell ⟨S, 1, none⟩ (.int .i64 0)).frozen? ⟨S, 2, none⟩ = false := (HSP.out.setAt 0).free 2
      go_wp2
      go_end0
      obtain ⟨⟨k1, k2, k3, k4⟩, k5, k6⟩ := HF.out
      have hG : Gr (fun k => k = S) W ((W9.setCell ⟨S, 1, none⟩ (.int .i64 0)).setCell ⟨S, 2, none⟩ (.int .i64 (d : Int))) := (k6.set S 1 rfl _).set S 2 rfl _
      have hlen : (xs.drop a).length = d := by rw [List.length_drop]; have := HN.out; omega
      have hSw := HSw.out
      refine ⟨⟨fun k => k = T', T', .slice va' d vc', .slice none 0 0, xs.drop a, 0, 0, ?_, ⟨?_, ?_, World.ownsRow_nil _ _ _ _, .inl rfl, HBX.out, k4, (by simp [Value.ownBlock]), (fun k hk e => by cases e), rfl, (fun k hk e => k4 (by rw [hk, e])), (fun k hk => by cases hk)⟩, Nat.zero_le _, Nat.zero_le _, rfl, (fun k hk => .inr (by rw [hk]; exact k3)), (fun k hk => .inr (own_lt k2 k hk).1), (k5.set S 1 rfl _).set S 2 rfl _⟩, rfl⟩
      · rw [hlen]
        exact Bk.set (HSP.out.setAt 0) 2 _
      · exact k1.gr hG (fun e => by omega)
      · rw [hlen]
        exact own_base0 (own_gr k2 hG (fun b hb e => by have := (own_lt k2 b hb).1; omega))
  · have hci : ¬ ((d : Int) < (a : Int)) := by omega
    have ha2 : a ≤ n - a := by omega
    clear h hs hn hd hvc
    go_enter Tryd.func19, Tryd.ntmps19
    go_wp2_with (go_at_call 34; go_must (refine (Calls.mono hW.out ?_)); rintro r w1 ⟨rfl, h1, h2⟩; have H1 : Hid (Sp w1 S T a n most j l fv ∧ w.grownBy w1 none) := ⟨h1, h2⟩; obtain ⟨_, c1, _⟩ := h1.cells; clear h1 h2)
    go_end0
    have z := HR.out w1 H1.out.2
    obtain ⟨z1, z2⟩ := z
    refine ⟨⟨O, T, _, u, xs, M, a, by rw [← HN.out.1]; exact z1, z2, by rw [← HN.out.1]; exact ha, by rw [← HN.out.1]; exact ha2, rfl, fun k hk => .inl hk, fun k hk => .inl ?_, Gr.of H1.out.2 (by simp)⟩, rfl⟩
    rw [HN.out.1] at hk
    exact hk
end Go.Proofs.YtbfbehjldloeoaaDoor
