/-
  What Splitter.Feed answers. Condition: the table of package crc lies in memory; at most 2^38 bytes at once, which lie outside of the Splitter's own memory.
-/
import Derived.Test.YtbfbehjldloeoaaDoorFFd
namespace Go.Proofs.YtbfbehjldloeoaaDoor
set_option linter.unusedVariables false
open Go.RowKit Go.Shelf
attribute [local go_sem] Oper.semAt_some

theorem oper_in {P : Program} {l0 m0 : Nat} {o : Oper} {a : Act} {w : World} {K : Act → World → Prop} {Q : Exit → Act → World → Prop} (hd : ∀ c, o.op ≠ .defer c) (h : Oper.wp P o a w K Q) : Oper.wpIn (Fence.wide.inRound l0) m0 P o a w K Q := by
  refine ⟨fun _ _ => trivial, ?_⟩
  rw [show (Fence.wide.inRound l0).round = some l0 from rfl, Oper.semAt_some l0 _ o hd]
  unfold Oper.wp at h
  generalize (execOp a.eval o).run P w = r at h ⊢
  match r, h with
  | .ok (.value v) w', h => exact h
  | .ok .skip w', h => exact h
  | .ok (.defer d) w', h => exact h
  | .ok (.enter f args) w', h => exact ⟨fun hh => (by cases hh), CallsIn.inRound l0 (callsIn_wide.2 h)⟩
  | .ok (.row row args) w', h =>
    refine ⟨fun hh => (by cases hh), fun c cs _ => ?_⟩
    obtain ⟨v, w'', r, s⟩ := h c cs
    exact ⟨v, w'', r, stepsIn_wide.2 s⟩
  | .halt (.panic v) w', h => exact h
theorem wpListIn_load_bk {l0 m0 : Nat} {ops : Array Oper} {rest : List Oper} {op : Oper} {a : Act} {w : World} {Q : Exit → Act → World → Prop} (T : TypeId) (hgd : op.guard = none) (x : Operand) (ho : op.op = .load T x)
    {d : TypeDesc} (hu : Tryd.prog.underlying T = some d) (hd : d.isRow = true) {n : Nat} (hi : (Tryd.prog.info? T).map (·.size) = some n) (b : Nat) (cs : Array Value) (hx : a.eval x = .pointer (some ⟨b, 0, none⟩)) (h : Bk T w b cs) (hl : cs.size = n)
    (K : wpListIn (Fence.wide.inRound l0) m0 Tryd.prog ops Q rest (a.put op.dst (.agg cs)) w) : wpListIn (Fence.wide.inRound l0) m0 Tryd.prog ops Q (op :: rest) a w :=
  wpListIn_plain hgd fun _ hK => oper_in (fun c e => by rw [ho] at e; cases e) (wp_load_mid T x ho b 0 hx cs.toList d (fun j v hv => by rw [Nat.zero_add, cell_of_row w b j _ _ _ h]; simpa using hv) hu hd (by rw [hi, ← hl]; simp) (hK _ _ (by simpa using K)))
set_option maxRecDepth 20000 in
set_option maxHeartbeats 4000000 in
theorem feed_c (G : Nat → Prop) (w : World) (S : Nat) (ys : List Int) (most j l : Nat) (ba : Option Addr) (bn bc : Nat) (bs : List Int) (h : SS G w S 2097180 ys most j l (.slice none 0 0) []) (hid : Idle most ys) (hb : Seg .u8 w ba bn bs) (hby : Bytes bs) (hbc : bn ≤ bc) (hbo : 0 < bn → ∀ b o s, ba = some ⟨b, o, s⟩ → ¬ G b) (ht : Tab w) (h0 : ¬ G 0) (hm : most ≤ 1048576) (hbn : bn ≤ 274877906944) (hj : j ≤ 576460752303423488) (hlo : l ≤ 576460752303423488) :
    Calls Tryd.prog 8 #[.pointer (some ⟨S, 0, none⟩), .slice ba bn bc] w fun r w' => CallA G w S 2097180 (fseen most false (ys ++ bs)).rest most (j + (fseen most false (ys ++ bs)).junk) (l + (fseen most false (ys ++ bs)).lost) (fseen most false (ys ++ bs)).frames r w' := by
  obtain ⟨Q0, hQ, hQG, _⟩ := h.tight
  have HMD : Hid (∀ W, w.grownBy W none → Calls Tryd.prog 14 #[.pointer (some ⟨S, 0, none⟩)] W fun r w' => r = .returned (.bool true) ∧ w' = W) := fun W hg => by
    obtain ⟨T, v, xs, a, O, F, u, M, h1, _⟩ := hQ.gr (Gr.of (G := fun _ => False) hg (by simp)) (fun _ _ z => z)
    exact made_yes S T a xs.length most j l (.slice none 0 0) W h1.sp
  have HST : Hid (∀ W, Calls Tryd.prog 15 #[] W fun r w' => r = .returned (.agg (stepT false)) ∧ W.grownBy w' none) := steps_c
  have HCK : Hid _ := chunk_c ba bn bc
  have HA : Hid (w.grownBy (w.alloc (.cells #[.pointer (some ⟨S, 0, none⟩)] 34)) none ∧ Boxed (w.alloc (.cells #[.pointer (some ⟨S, 0, none⟩)] 34)) w.heap.size 34 (.pointer (some ⟨S, 0, none⟩))) := ⟨World.grownBy_alloc _ _ _, heap_new w _⟩
  refine (callsIn_wide (n := 5)).1 ?_
  refine callsIn_of_wp_marks Tryd.func8 rfl trivial ?_ rfl
  simp only [Tryd.ntmps8, List.size_toArray, List.length_cons, List.length_nil, Nat.reduceAdd, Nat.reduceSub, Array.replicate_succ, Array.replicate_zero, List.push_toArray, List.append_toArray, List.nil_append, List.cons_append]
  refine wpIn_wide.2 ?_
  go_wp2_with (first
    | (go_at_call 14; go_must (refine (Calls.mono (HMD.out _ HA.out.1) ?_)); rintro r w0 ⟨rfl, hw0⟩; rw [hw0]; clear hw0)
    | (go_at_call 15; go_must (refine (Calls.mono (HST.out _) ?_)); rintro r w1 ⟨rfl, h1⟩; have H1 : Hid (w.grownBy w1 none) := gb_trans HA.out.1 h1; have HA1 : Hid (Boxed w1 w.heap.size 34 (.pointer (some ⟨S, 0, none⟩)) ∧ (w.alloc (.cells #[.pointer (some ⟨S, 0, none⟩)] 34)).grownBy w1 none) := ⟨HA.out.2.kept h1 (by simp), h1⟩; clear h1; have HZ : Hid (Bk 55 (w1.alloc (.cells zT 55)) w1.heap.size zT ∧ w1.grownBy (w1.alloc (.cells zT 55)) none) := blk_new w1 55 zT)
    | (refine wpList_store_bk 55 rfl (.tmp 5) (.tmp 10) rfl infoT w1.heap.size zT (stepT false) rfl rfl HZ.out.1 rfl rfl (stepT_one false) ?_; intro w2 h1 h2; have H2 : Hid (Bk 55 w2 w1.heap.size (stepT false) ∧ Gr (fun k => k = w1.heap.size) w w2) := ⟨h1, (Gr.of (gb_trans H1.out HZ.out.2) (by simp)).trans (Gr.of h2 (fun k hk => .inl (by cases hk; rfl)))⟩; have HA2 : Hid (∀ k, k < w1.heap.size → w2.heap[k]? = w1.heap[k]?) := fun k hk => (h2.block k (Nat.lt_of_lt_of_le hk HZ.out.2.size) (fun e => by cases e; omega)).trans (HZ.out.2.block k hk (by simp)); clear h1 h2)
    | (go_at_call 16; go_must (refine (Calls.mono (HCK.out _) ?_)); rintro r w3 ⟨rfl, h1, h2, h3, h4⟩; have H3 : Hid _ := And.intro h1 (And.intro h2 (And.intro h3 h4)); clear h1 h2 h3 h4))
  have HB3 : Hid (w.heap.size < w1.heap.size ∧ w1.heap.size < w2.heap.size ∧ w3.heap.size = w2.heap.size + 2 ∧ w.heap.size ≤ w1.heap.size) := by
    have q1 := H2.out.2.size
    have q2 := lt_of_block H2.out.1
    have q3 := H1.out.size
    refine ⟨?_, q2, H3.out.2.2.2, q3⟩
    have := HA1.out.2.size
    rw [World.size_alloc] at this
    omega
  have HG3 : Hid (Gr (fun _ => False) w w3) := by
    have hG2 : Gr (fun k => k = w1.heap.size) w w3 := H2.out.2.then (Gr.of (G := fun _ => False) H3.out.2.2.1 (by simp)) (fun _ _ z => z.elim)
    exact ⟨hG2.os, hG2.tape, hG2.output, hG2.size, fun i hi _ => hG2.block i hi (fun e => by have := H1.out.size; omega)⟩
  have HBX : Hid (Boxed w3 w.heap.size 34 (.pointer (some ⟨S, 0, none⟩)) ∧ Bk 55 w3 w1.heap.size (stepT false)) := by
    refine ⟨?_, H2.out.1.gr (Gr.of (G := fun _ => False) H3.out.2.2.1 (by simp)) (fun z => z)⟩
    have e1 : w1.heap[w.heap.size]? = some (.cells #[.pointer (some ⟨S, 0, none⟩)] 34 (0, 0)) := HA1.out.1
    have e2 : w2.heap[w.heap.size]? = w1.heap[w.heap.size]? := HA2.out _ (by have := HB3.out; omega)
    exact (H3.out.2.2.1.block w.heap.size (by have := HB3.out; omega) (by simp)).trans (e2.trans e1)
  obtain ⟨BX, hBX⟩ : ∃ BX, BX = w.heap.size := ⟨_, rfl⟩
  obtain ⟨BT, hBT⟩ : ∃ BT, BT = w1.heap.size := ⟨_, rfl⟩
  obtain ⟨Bs, hBs⟩ : ∃ Bs, Bs = w2.heap.size := ⟨_, rfl⟩
  obtain ⟨N, hN⟩ : ∃ N, N = w3.heap.size := ⟨_, rfl⟩
  have HC3 : Hid (w3.heap[Bs]? = some (.cells #[.slice ba bn bc] 22 (0, 0)) ∧ w3.heap[Bs + 1]? = some (.cells #[.int .i64 65536] 3 (0, 0)) ∧ BX = w.heap.size ∧ BX < BT ∧ BT < Bs ∧ Bs + 2 = N ∧ N = w3.heap.size) := by
    have q := HB3.out
    rw [hBs, hBX, hBT, hN]
    exact ⟨H3.out.1, H3.out.2.1, rfl, q.1, q.2.1, q.2.2.1.symm, rfl⟩
  rw [← hBX, ← hBT] at HBX
  rw [← hBX, ← hBT, ← hBs]
  have HI : Hid (FI most ys j l (fun k => Q0 k ∨ N ≤ k) S w3 ∧ Gr G w w3 ∧ Boxed w3 BX 34 (.pointer (some ⟨S, 0, none⟩)) ∧ Bk 55 w3 BT (stepT false)) := ⟨fi_start ((hQ.gr HG3.out (fun _ _ z => z)).weak (fun k _ z => .inl z)) hid, (Gr.refl G w).then HG3.out (fun _ _ z => z.elim), HBX.out⟩
  have HX : Hid (Seg .u8 w ba bn bs ∧ Bytes bs ∧ (0 < bn → ∀ b o s, ba = some ⟨b, o, s⟩ → ¬ G b) ∧ Tab w ∧ ¬ G 0 ∧ (∀ k, Q0 k → G k ∧ k < w.heap.size) ∧ ys.length ≤ 2097180) := by
    refine ⟨hb, hby, hbo, ht, h0, hQG, ?_⟩
    obtain ⟨T, v, xs, a, O, F, u, M, q1, q2, q3⟩ := h
    rw [← q2, List.length_drop]
    omega
  clear h hQ hQG HMD HST HCK HA HA1 HA2 H1 HZ H2 H3 HB3 HG3 HBX hBX hBT hBs hb hby hbo ht h0 hid
  refine (wpIn_wide (n := 5)).1 ?_
  refine wpIn_rangeFunc_ownH rfl (by decide) (gf := 31) (lb := #[.pointer (some ⟨Bs, 0, none⟩), .pointer (some ⟨Bs + 1, 0, none⟩)]) rfl trivial (enters_of Tryd.func31 (by kernel_rfl) rfl)
    (chunk_stops 4 (by decide) Bs (Bs + 1) ba bn bc hbc (by omega) w3 HC3.out.1 HC3.out.2.1) K2.trans (fun W l o o' hl ho h1 h2 => ⟨World.putObj_heap_other (by have := HC3.out; omega), World.putObj_heap_other (by have := HC3.out; omega)⟩) (Below.refl _ _) (fun _ => rfl)
    (fun pre W => FI most (ys ++ ckP bs (pre.map Fin.val)) j l (fun k => Q0 k ∨ N ≤ k) S W ∧ Gr G w W ∧ Boxed W BX 34 (.pointer (some ⟨S, 0, none⟩)) ∧ Bk 55 W BT (stepT false)) (fun _ _ _ => False)
    (fun s A B row hs hg hr => ?own) (fun _ _ _ _ _ hs _ _ => hs) (by have := HI.out; simp only [List.map_nil, ckP, List.flatten_nil, List.append_nil]; exact this)
    (fun x a' W => a' = { tmps := #[.pointer (some ⟨S, 0, none⟩), .slice ba bn bc, .pointer (some ⟨BX, 0, none⟩), undef, .slice none 0 0, .pointer (some ⟨BT, 0, none⟩), ckV ba bn x.val, .pointer (some ⟨S, 0, none⟩), .bool true, .bool false, .agg (stepT false), .slice ba bn bc, .func (.func 31) #[] #[.pointer (some ⟨Bs, 0, none⟩), .pointer (some ⟨Bs + 1, 0, none⟩)], ckV ba bn x.val, undef, undef, undef, undef, undef, undef, undef, undef, undef, undef], defers := [] })
    (fun x a' s A B row hs hg hr => hs)
    ?assign ?body ?done (fun D c pre W hD h1 h => h.elim)
  case own =>
    have hb : ∀ k, (∃ o, A.heap[k]? = some o ∧ o.isCells = true) → row ≠ some k := fun k ⟨o, ho, hc⟩ e => by
      obtain ⟨_, o', ho', hc'⟩ := hr k e
      rw [ho] at ho'
      cases ho'
      rw [hc] at hc'
      cases hc'
    refine ⟨fi_own hs.1 hg (fun r e => (hr r e).2), hs.2.1.then (Gr.of (G := fun k => row = some k) hg (fun k hk => .inl hk)) (fun i hi e => ?_), ?_, ?_⟩
    · have h1 := (hr i e).1
      have h2 := HI.out.2.1.size
      omega
    · exact (hg.block BX (lt_of_block hs.2.2.1) (fun e => hb BX ⟨_, hs.2.2.1, rfl⟩ e.symm)).trans hs.2.2.1
    · exact (hg.block BT (lt_of_block hs.2.2.2) (fun e => hb BT ⟨_, hs.2.2.2, rfl⟩ e.symm)).trans hs.2.2.2
  case assign =>
    rintro l pre x W K hi hK
    unfold encC
    gi_wp2
    exact hK _ _ ((KeepsOthers.refl _).from _) ⟨rfl, rfl⟩ hi rfl
  case body =>
    rintro l0 pre x a' Wr hl ⟨r0, hr0⟩ ⟨⟨fv, L, e1, hSS⟩, hGr, hBx, hBt⟩ rfl hlt
    have hzl : (ys ++ ckP bs (pre.map Fin.val)).length ≤ 549755813888 := by
      have k1 := ckP_len bs (pre.map Fin.val)
      rw [List.length_map] at k1
      have k2 := HX.out.2.2.2.2.2.2
      have k3 : 65536 * pre.length < bn := (ckN_lt bn pre.length).1 hlt
      rw [List.length_append]
      omega
    have hfl := fi_len L e1
    have HNX : Hid (ckP bs ((pre ++ [x]).map Fin.val) = ckP bs (pre.map Fin.val) ++ ckB bs x.val) := by
      show _ = _
      rw [List.map_append]
      exact ckP_snoc bs _ _
    obtain ⟨zs, hzs⟩ : ∃ zs, zs = ys ++ ckP bs (pre.map Fin.val) := ⟨_, rfl⟩
    rw [← hzs] at e1 hSS hzl hfl
    obtain ⟨Q, q1, q2, q3⟩ := hSS.tight
    have hx : 65536 * x.val < bn := (ckN_lt bn x.val).1 x.isLt
    obtain ⟨X1, X2, X3, X4, X5, X6, X7⟩ := HX.out
    have hwN : w.heap.size ≤ N := by have := HC3.out; omega
    have hNr : N ≤ Wr.heap.size := by
      have h1 := lt_of_block hBt
      have h2 : w3.heap.size ≤ l0 := hl
      have h3 := (Array.getElem?_eq_some_iff.1 hr0).1
      have := HC3.out
      omega
    have hsg : Seg .u8 Wr (cutB ba (65536 * x.val + ckE bn x.val) (65536 * x.val)) (ckE bn x.val) (ckB bs x.val) := ck_seg (X1.gr hGr (X3 (by omega))) x.val hx
    have hE : ckE bn x.val ≤ 65536 := Nat.min_le_left _ _
    have HGb : Hid ((∀ k, Q k → (Q0 k ∨ N ≤ k) ∧ k < Wr.heap.size) ∧ (∀ k, Q k → ∃ o, Wr.heap[k]? = some o ∧ o.isCells = true) ∧ ¬ Q BX ∧ ¬ Q BT ∧ ¬ Q Bs ∧ ¬ Q (Bs + 1) ∧ BX < Wr.heap.size ∧ BT < Wr.heap.size ∧ Bs + 1 < Wr.heap.size) := by
      have q := HC3.out
      have hno : ∀ k, w.heap.size ≤ k → k < N → ¬ Q k := fun k h1 h2 z => (q2 k z).1.elim (fun z2 => by have := (X6 k z2).2; omega) (fun z2 => by omega)
      exact ⟨q2, q3, hno BX (by omega) (by omega), hno BT (by omega) (by omega), hno Bs (by omega) (by omega), hno (Bs + 1) (by omega) (by omega), by omega, by omega, by omega⟩
    have HTK : Hid (Calls Tryd.prog 17 #[.pointer (some ⟨S, 0, none⟩), ckV ba bn x.val] Wr fun r w' => r = .returned (.tuple #[]) ∧ SS (fun k => Q k ∨ Wr.heap.size ≤ k) w' S (2097180 + ckE bn x.val) ((fseen most false zs).rest ++ ckB bs x.val) most (j + (fseen most false zs).junk) (l + (fseen most false zs).lost) fv L ∧ Gr (fun k => Q k ∨ Wr.heap.size ≤ k) Wr w') := by
      refine ss_take (q1.weak (fun k _ z => .inl z)) (fun k hk => .inr hk) _ _ _ _ hsg (ckB_bytes X2 _) (fun z => ?_) (by omega)
      have z2 := cutB_none z
      rcases X1.2 with z3 | ⟨b, o, z3, _⟩
      · omega
      · rw [z2] at z3; cases z3
    have HWK : Hid (∀ W1, SS (fun k => Q k ∨ Wr.heap.size ≤ k) W1 S (2097180 + ckE bn x.val) ((fseen most false zs).rest ++ ckB bs x.val) most (j + (fseen most false zs).junk) (l + (fseen most false zs).lost) fv L → Gr (fun k => Q k ∨ Wr.heap.size ≤ k) Wr W1 → Calls Tryd.prog 18 #[.pointer (some ⟨S, 0, none⟩), .agg (stepT false)] W1 fun r w' => r = .returned (.tuple #[]) ∧ (∃ fv' L', SeenOf L L' (fseen most false ((fseen most false zs).rest ++ ckB bs x.val)) ∧ SS (fun k => Q k ∨ Wr.heap.size ≤ k) w' S (2097180 + ckE bn x.val) (fseen most false ((fseen most false zs).rest ++ ckB bs x.val)).rest most (j + (fseen most false zs).junk + (fseen most false ((fseen most false zs).rest ++ ckB bs x.val)).junk) (l + (fseen most false zs).lost + (fseen most false ((fseen most false zs).rest ++ ckB bs x.val)).lost) fv' L') ∧ Gr (fun k => Q k ∨ Wr.heap.size ≤ k) W1 w') := fun W1 h1 h2 => by
      have hz : ¬ (Q 0 ∨ Wr.heap.size ≤ 0) := fun z => z.elim (fun z2 => (q2 0 z2).1.elim (fun z3 => X5 (X6 0 z3).1) (fun z3 => by have := X4.pos; omega)) (fun z2 => by have := X4.pos; omega)
      exact ss_walk h1 false (fun k hk => .inr (Nat.le_trans h2.size hk)) ((X4.gr hGr X5).gr h2 hz) hz hm (by omega) (by omega) (by omega) (by omega)
    have HLV : Hid (∀ W2 fv' L', SS (fun k => Q k ∨ Wr.heap.size ≤ k) W2 S (2097180 + ckE bn x.val) (fseen most false ((fseen most false zs).rest ++ ckB bs x.val)).rest most (j + (fseen most false zs).junk + (fseen most false ((fseen most false zs).rest ++ ckB bs x.val)).junk) (l + (fseen most false zs).lost + (fseen most false ((fseen most false zs).rest ++ ckB bs x.val)).lost) fv' L' → Gr (fun k => Q k ∨ Wr.heap.size ≤ k) Wr W2 → Calls Tryd.prog 19 #[.pointer (some ⟨S, 0, none⟩)] W2 fun r w' => r = .returned (.tuple #[]) ∧ SS (fun k => Q k ∨ Wr.heap.size ≤ k) w' S (2 * (fseen most false ((fseen most false zs).rest ++ ckB bs x.val)).rest.length) (fseen most false ((fseen most false zs).rest ++ ckB bs x.val)).rest most (j + (fseen most false zs).junk + (fseen most false ((fseen most false zs).rest ++ ckB bs x.val)).junk) (l + (fseen most false zs).lost + (fseen most false ((fseen most false zs).rest ++ ckB bs x.val)).lost) fv' L' ∧ Gr (fun k => Q k ∨ Wr.heap.size ≤ k) W2 w') := fun W2 fv' L' h1 h2 => ss_leave h1 (fun k hk => .inr (Nat.le_trans h2.size hk)) (by omega)
    have HEND : Hid (∀ W3 fv' L', SeenOf L L' (fseen most false ((fseen most false zs).rest ++ ckB bs x.val)) → SS (fun k => Q k ∨ Wr.heap.size ≤ k) W3 S (2 * (fseen most false ((fseen most false zs).rest ++ ckB bs x.val)).rest.length) (fseen most false ((fseen most false zs).rest ++ ckB bs x.val)).rest most (j + (fseen most false zs).junk + (fseen most false ((fseen most false zs).rest ++ ckB bs x.val)).junk) (l + (fseen most false zs).lost + (fseen most false ((fseen most false zs).rest ++ ckB bs x.val)).lost) fv' L' → Gr (fun k => Q k ∨ Wr.heap.size ≤ k) Wr W3 →
        KeepsFrom w3.heap.size Wr W3 ∧ K2 Bs (Bs + 1) Wr W3 ∧ FI most (ys ++ ckP bs ((pre ++ [x]).map Fin.val)) j l (fun k => Q0 k ∨ N ≤ k) S W3 ∧ Gr G w W3 ∧ Boxed W3 BX 34 (.pointer (some ⟨S, 0, none⟩)) ∧ Bk 55 W3 BT (stepT false)) := by
      intro W3 fv' L' h1 h2 h3
      obtain ⟨y1, y2, y3, y4, y5, y6, y7, y8, y9⟩ := HGb.out
      refine ⟨⟨h3.size, fun k o _ hk hc => ?_⟩, ⟨h3.block Bs (by omega) (fun z => z.elim y5 (by omega)), h3.block (Bs + 1) (by omega) (fun z => z.elim y6 (by omega))⟩, ?_, ?_, (h3.block BX y7 (fun z => z.elim y3 (by omega))).trans hBx, (h3.block BT y8 (fun z => z.elim y4 (by omega))).trans hBt⟩
      · have hkl := (Array.getElem?_eq_some_iff.1 hk).1
        refine (h3.block k hkl (fun z => z.elim (fun z2 => ?_) (fun z2 => by omega))).trans hk
        obtain ⟨o', ho', hc'⟩ := y2 k z2
        rw [hk] at ho'
        cases ho'
        rw [hc] at hc'
        cases hc'
      · rw [HNX.out, ← List.append_assoc, ← hzs]
        refine fi_next e1 h1 (h2.weak (fun k _ z => ?_)) hm
        exact z.elim (fun z2 => (y1 k z2).1) (fun z2 => .inr (by omega))
      · refine hGr.then h3 (fun i hi z => ?_)
        exact z.elim (fun z2 => (y1 i z2).1.elim (fun z3 => (X6 i z3).1) (fun z3 => by omega)) (fun z2 => by omega)
    have c2 : Wr.cell? ⟨BX, 0, none⟩ = some (.pointer (some ⟨S, 0, none⟩)) := hBx.cell
    have HCX : Hid (∀ W, Gr (fun k => Q k ∨ Wr.heap.size ≤ k) Wr W → W.cell? ⟨BX, 0, none⟩ = some (.pointer (some ⟨S, 0, none⟩)) ∧ Bk 55 W BT (stepT false)) := fun W hg => by
      obtain ⟨y1, y2, y3, y4, y5, y6, y7, y8, y9⟩ := HGb.out
      exact ⟨(World.cell?_of_block (w := Wr) (w' := W) (a := ⟨BX, 0, none⟩) (hg.block BX y7 (fun z => z.elim y3 (by omega)))).trans c2, hBt.gr hg (fun z => z.elim y4 (by omega))⟩
    clear hSS hGr hBx hBt e1 q1 q2 q3 X1 X2 X3 X4 X5 X6 X7 hsg hfl hzl hr0 HX HI HC3 HNX HGb hzs
    obtain ⟨pv, hpv⟩ : ∃ pv, pv = ckV ba bn x.val := ⟨_, rfl⟩
    rw [← hpv] at HTK ⊢
    clear hpv
    gi_wp2
    refine ⟨trivial, ?_⟩
    refine (CallsIn.inRound l0 (callsIn_wide.2 HTK.out)).mono ?_
    rintro e W1 ⟨rfl, t1, t2⟩
    have HT1 : Hid (_ ∧ _) := ⟨t1, t2⟩
    have HG1 : Hid (Gr (fun k => Q k ∨ Wr.heap.size ≤ k) Wr W1) := t2
    have c3 := (HCX.out W1 t2).1
    clear t1 t2 c2
    gi_wp2_with (refine wpListIn_load_bk 55 rfl (.tmp 5) rfl Tryd.underlying55 rfl infoT BT (stepT false) rfl (HCX.out W1 HG1.out).2 (stepT_size false) ?_)
    refine ⟨trivial, ?_⟩
    refine (CallsIn.inRound l0 (callsIn_wide.2 (HWK.out W1 HT1.out.1 HT1.out.2))).mono ?_
    rintro e W2 ⟨rfl, ⟨fv', L', t1, t2⟩, t3⟩
    have HT2 : Hid (_ ∧ _ ∧ _) := ⟨t1, t2, HG1.out.trans t3⟩
    have c4 := (HCX.out W2 (HG1.out.trans t3)).1
    clear t1 t2 t3 c3
    gi_wp2
    refine ⟨trivial, ?_⟩
    refine (CallsIn.inRound l0 (callsIn_wide.2 (HLV.out W2 fv' L' HT2.out.2.1 HT2.out.2.2))).mono ?_
    rintro e W3 ⟨rfl, t1, t2⟩
    have HT3 : Hid _ := HEND.out W3 fv' L' HT2.out.1 t1 (HT2.out.2.2.trans t2)
    clear t1 t2 c4
    gi_wp2
    exact HT3.out
  case done =>
    rintro D xs W hD hS ⟨⟨fv, L, e1, hSS⟩, hGr, hBx, hBt⟩ hK
    rw [hS, show ckP bs (List.range (ckN bn)) = bs from by rw [← HX.out.1.1]; exact ckP_all bs] at e1 hSS
    obtain ⟨Qh, q1, q2, q3⟩ := hSS.tight
    have hQD : ¬ Qh D := fun z => by
      obtain ⟨o, ho, hc⟩ := q3 D z
      rw [hK] at ho
      cases ho
      cases hc
    have HHD : Hid _ := ss_hand q1
    have c2 : W.cell? ⟨BX, 0, none⟩ = some (.pointer (some ⟨S, 0, none⟩)) := hBx.cell
    have HD : Hid (¬ Qh D ∧ w3.heap.size ≤ D ∧ W.heap[D]? = some (.deferred (some [])) ∧ (∀ k, Qh k → (Q0 k ∨ N ≤ k) ∧ k < W.heap.size) ∧ Gr G w W ∧ L.map FrM.fr = (fseen most false (ys ++ bs)).frames) := ⟨hQD, hD, hK, q2, hGr, e1⟩
    clear hSS hGr hBx hBt q1 q2 q3 hQD hK hD e1 hS
    go_wp2_with (go_at_call 20; go_must (refine (Calls.mono HHD.out ?_)); rintro r w6 ⟨fa, fc, h1, rfl, ⟨Q, F, h2, h3, h4, h5, h6⟩, h7⟩; have H7 : Hid (fv = .slice fa L.length fc ∧ SS Q w6 S 2097180 (fseen most false (ys ++ bs)).rest most (j + (fseen most false (ys ++ bs)).junk) (l + (fseen most false (ys ++ bs)).lost) (.slice none 0 0) [] ∧ FrL F w6 fv L ∧ (∀ k, Q k → Qh k ∧ k < w6.heap.size) ∧ (∀ k, F k → Qh k ∧ k < w6.heap.size) ∧ (∀ k, F k → ¬ Q k) ∧ Gr Qh W w6) := ⟨h1, h2, h3, h4, h5, h6, h7⟩; clear h1 h2 h3 h4 h5 h6 h7)
    have hD6 : w6.heap[D]? = some (.deferred (some [])) := (H7.out.2.2.2.2.2.2.block D (Array.getElem?_eq_some_iff.1 HD.out.2.2.1).1 HD.out.1).trans HD.out.2.2.1
    refine ⟨by simp, .inl ⟨_, _, rfl, run_takeDeferred hD6, ?_⟩⟩
    refine ⟨_, results_tmp Tryd.results8 _ _ _, ?_⟩
    obtain ⟨e1, h2, h3, h4, h5, h6, h7⟩ := H7.out
    obtain ⟨y1, y2, y3, y4, y5, y6⟩ := HD.out
    have hwN : w.heap.size ≤ N := by have := HC3.out; omega
    have hNN : N = w3.heap.size := HC3.out.2.2.2.2.2.2
    have hP : Gr (fun k => k = D) w6 (w6.putObj D (.deferred none)) := Gr.of (grownBy_putObj' w6 D (.deferred none)) (fun k hk => .inl (by cases hk; rfl))
    have hps := hP.size
    have hX6 := HX.out.2.2.2.2.2.1
    have hq : ∀ k, Qh k → G k ∨ w.heap.size ≤ k := fun k hk => (y4 k hk).1.elim (fun z => .inl (hX6 k z).1) (fun z => .inr (by omega))
    refine ⟨fa, fc, L, Q, F, by rw [e1]; rfl, y6, h2.gr hP (fun k hk e => y1 (e ▸ (h4 k hk).1)), by rw [← e1]; exact h3.gr hP (fun k hk e => y1 (e ▸ (h5 k hk).1)), fun k hk => ⟨hq k (h4 k hk).1, by have := (h4 k hk).2; omega⟩, fun k hk => ⟨hq k (h5 k hk).1, by have := (h5 k hk).2; omega⟩, h6, ?_⟩
    refine (y5.then h7 (fun i hi z => (hq i z).elim id (fun q => by omega))).then hP (fun i hi z => ?_)
    omega
end Go.Proofs.YtbfbehjldloeoaaDoor
