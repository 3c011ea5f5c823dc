/-
  What disk's files.do does with a cut and with an extend. Condition: a file and what is laid behind it have at most 2^47 bytes.
-/
import Derived.Test.YteoohgjoffpmkaaKDo
import Derived.Test.YteoohgjoffpmkaaRLg
import Derived.Test.YteoohgjoffpmkaaTSf
import Derived.Maps.AppendAt
import Derived.Laws.OwnMore
import Derived.Laws.Small
namespace Go.Proofs.Yteoohgjoffpmkaa
open Go.RowKit
set_option linter.unusedVariables false

/-- A step of a drawn region: bytes behind bytes of one's own. -/
theorem ph_catK {ops : Array Oper} {o : Oper} {A : Act} {W : World} {K : Act → World → Prop} {Q : Exit → Act → World → Prop} {E : Prop} (hwt : Region.wanted o (yielded ops A.tmps) = true) (s x : Operand) (ho : o.op = .call { callee := .builtin .append, args := #[s, x], argTypes := #[57, 57] })
    (n : Nat) (v : Value) (xs : List Int) (hs : A.eval s = v) (hown : Own 0 W v n xs) (ao : Option Addr) (m c : Nat) (ys : List Int) (hx : A.eval x = .slice ao m c) (hao : ao = none → c = 0) (hy : Seg .u8 W ao m ys) (hb : n + m ≤ 140737488355328)
    (hK : ∀ v' W', Own 0 W' v' (n + m) (xs ++ ys) → W.grownBy W' v.ownBlock → (v'.ownBlock = v.ownBlock ∨ v'.ownBlock = some W.heap.size) → K (A.put o.dst v') W') : if Region.wanted o (yielded ops A.tmps) = true then Oper.wp Try.prog o A W K Q else E := by
  rw [if_pos hwt]
  obtain ⟨i, hi, hz, h4, h5⟩ := info_parts' Try.infoU8
  unfold Oper.wp execOp
  cases ao with
  | none =>
    have hm0 : m = 0 := by
      rcases hy.2 with h0 | ⟨_, _, h, _⟩
      · exact h0
      · cases h
    subst hm0
    obtain rfl : ys = [] := List.eq_nil_of_length_eq_zero hy.1
    obtain rfl := hao rfl
    have hrun := run_append_owned_none (P := Try.prog) (w := W) 0 57 o.type 5 i 1 Try.underlying57 hi v n (xs.map (Value.int .u8)) hown
    simp only [ho, resolve, invoke, builtin, Sem.run_bind, Sem.run_pure, Result.andThen_ok, List.map_toArray, List.map_cons, List.map_nil, hs, hx, hrun]
    exact hK v W (by simpa using hown) ⟨rfl, rfl, rfl, Nat.le_refl _, fun _ _ _ => rfl⟩ (.inl rfl)
  | some ad =>
    obtain ⟨v', W', r1, r2, r3, _, r5⟩ := run_append_own_at (P := Try.prog) W 0 57 o.type 5 i (.int .u8 0) 1 1 Try.underlying57 hi hz h4 h5 rfl (by decide) v n (xs.map (Value.int .u8)) hown ad m c (ys.map (Value.int .u8)) (by simp [hy.1]) (seg_news' hy ad rfl) (by intro u hu; obtain ⟨z, _, rfl⟩ := List.mem_map.1 hu; rfl) (by unfold maxLen; omega) (by omega) (Nat.zero_le _)
    simp only [ho, resolve, invoke, builtin, Sem.run_bind, Sem.run_pure, Result.andThen_ok, List.map_toArray, List.map_cons, List.map_nil, hs, hx, r1]
    exact hK v' W' (by unfold Own; rw [List.map_append]; exact r2) r3 r5
theorem own_head {w : World} {a : Option Addr} {len cap : Nat} {xs : List Int} (h : Own 0 w (.slice a len cap) len xs) (n : Nat) (hn : n ≤ len) : Own 0 w (.slice a n cap) n (xs.take n) := by
  have hl : xs.length = len := by have := h.1; simpa using this
  refine ⟨by simp; omega, ?_⟩
  rcases h.2 with ⟨e, _⟩ | ⟨g, cap', cur, e, hB, hg, h1, h2, h3, h4⟩
  · cases e
    obtain rfl : n = 0 := by omega
    exact .inl ⟨rfl, by simp⟩
  · cases e
    refine .inr ⟨g, cap, cur, rfl, hB, hg, by omega, by omega, h3, ?_⟩
    have e1 : cur.toList.take (n * 1) = (cur.toList.take (len * 1)).take n := by rw [List.take_take, Nat.mul_one, Nat.mul_one, Nat.min_eq_left hn]
    simpa [List.map_take] using e1.trans (by rw [h4])
set_option maxRecDepth 20000 in
set_option maxHeartbeats 1000000 in
theorem fdo3_c {O : Nat → Prop} {V F} (b : Nat) (s : ByteArray) (n : Nat) (kp : Int) (xs : List Int) (w : World) (h : Fl O w b V F) (hs : F s = some xs) (hn : n ≤ xs.length) :
    Calls Try.prog 77 #[.map (some b), .iface 125 (.agg #[.string s, .int .i64 (n : Int)]), .int .i64 kp] w (FdoA O w b (fset F s (some (xs.take n)))) := by
  obtain ⟨W0, hW0⟩ : ∃ W0, W0 = w.alloc (.cells #[.string s, .int .i64 (n : Int)] 125) := ⟨_, rfl⟩
  have g1 : Gr (fun _ => False) w W0 := by rw [hW0]; exact (Gr.refl _ _).alloc _
  have hbk : Bk 125 W0 w.heap.size #[.string s, .int .i64 (n : Int)] := by rw [hW0]; exact (blk_new w _ _).1
  have h1 : Fl O W0 b V F := h.gr g1 (fun _ _ z => z)
  obtain ⟨v, hv, hvo, hvb⟩ := h1.value hs
  obtain ⟨a, cap, rfl, _, _, hcap⟩ := hvo.seg
  have HV : Hid (∀ W, W0.grownBy W none → Fl O W b V F ∧ Own 0 W (.slice a xs.length cap) xs.length xs) := fun W hg => ⟨h1.gr (G := fun _ => False) (Gr.of hg (by simp)) (fun _ _ z => z), own_gr (G := fun _ => False) hvo (Gr.of hg (by simp)) (fun _ _ z => z)⟩
  have HK2 : Hid (∀ W, W0.grownBy W none → W.cell? ⟨w.heap.size, 0, none⟩ = some (.string s) ∧ W.cell? ⟨w.heap.size, 1, none⟩ = some (.int .i64 (n : Int))) := fun W hg => ⟨Bk.cell (hbk.grew hg (by simp)) 0, Bk.cell (hbk.grew hg (by simp)) 1⟩
  have HLK : Hid (∀ W, W0.grownBy W none → (Instr.lookup 76 (.map (some b)) (.string s) false).run Try.prog W = .ok (.slice a xs.length cap) W) := by
    show ∀ W, _
    intro W hg
    have z := mps_look Try.underlying76 Try.underlying9 (HV.out W hg).1.mp (.slice none 0 0) (hz_u8s W) s false
    rw [hv] at z
    simpa using z
  have HE : Hid (∀ W, W0.grownBy W none → ∃ w', (Instr.mapUpdate 76 (.map (some b)) (.string s) (.slice a n cap)).run Try.prog W = .ok () w' ∧ Hid (FdoA O w b (fset F s (some (xs.take n))) (.returned (.tuple #[])) w')) := by
    show ∀ W, _
    intro W hg
    obtain ⟨k1, k2⟩ := HV.out W hg
    obtain ⟨w', hu, hm, hg2, hz⟩ := mps_upd Try.underlying76 Try.underlying9 k1.mp s (.slice a n cap)
    have hob : ∀ k, (Value.slice a n cap).ownBlock = some k → (Value.slice a xs.length cap).ownBlock = some k := fun k hk => by cases a with | none => simp [Value.ownBlock] at hk | some x => simpa [Value.ownBlock] using hk
    refine ⟨w', hu, rfl, ⟨_, k1.put (fun k hk => .inl hk) s (.slice a n cap) (xs.take n) hm ?_ ?_ (fun t u ys ht hq ho => own_gr ho hg2 (fun k hk => (k1.ov t u k hq hk).2)) (fun k hk => ⟨.inl (k1.ov s _ k hv (hob k hk)).1, (k1.ov s _ k hv (hob k hk)).2, fun t u ht hq => k1.apart s t _ u k (fun e => ht e.symm) hv hq (hob k hk)⟩)⟩, (g1.wide (fun _ _ z => z.elim)).trans ((Gr.of hg (by simp)).trans (grO h.ob hg2))⟩
    · have z := own_head (own_gr k2 hg2 (fun k hk => (k1.ov s _ k hv hk).2)) n hn
      rw [show (xs.take n).length = n by simp; omega]
      exact z
    · exact bytes_of_mem (fun x hx => hvb.mem x (List.mem_of_mem_take hx))
  have HNC : Hid (n ≤ cap) := Nat.le_trans hn hcap
  obtain ⟨len, hlen⟩ : ∃ len, len = xs.length := ⟨_, rfl⟩
  rw [← hlen] at HLK
  have ht1 : ∀ W, (Instr.typeAssert (.iface 125 (.agg #[.string s, .int .i64 (n : Int)])) 123 118 true).run Try.prog W = .ok (.tuple #[.agg #[.string ByteArray.empty], .bool false]) W := fun W => by kernel_rfl
  have ht2 : ∀ W, (Instr.typeAssert (.iface 125 (.agg #[.string s, .int .i64 (n : Int)])) 123 120 true).run Try.prog W = .ok (.tuple #[.agg #[.string ByteArray.empty, .slice none 0 0], .bool false]) W := fun W => by kernel_rfl
  have ht3 : ∀ W, (Instr.typeAssert (.iface 125 (.agg #[.string s, .int .i64 (n : Int)])) 123 125 true).run Try.prog W = .ok (.tuple #[.agg #[.string s, .int .i64 (n : Int)], .bool true]) W := fun W => by kernel_rfl
  clear h h1 hbk hv hvo hvb hcap hs hn g1 hlen HV
  go_enter Try.func77, Try.ntmps77
  go_wp2_with fail
  rw [← hW0]
  clear hW0 ht1 ht2 ht3
  refine wp_region_lastR (fun a b => World.grownBy a b none) (fun _ _ _ h k => gb_trans h k) ⟨rfl, rfl, rfl, Nat.le_refl _, fun _ _ _ => rfl⟩ 10 rfl (by kernel_rfl) [41, 42, 43, 44, 45, 46, 47, 48, 49, 50, 100010] [[], [], [1], [], [], [4], [3, 5], [], [7], [6, 8], [0, 2, 9]] (by kernel_rfl) (by kernel_rfl) [fun u W => u = .map (some b), fun u W => u = .pointer (some ⟨w.heap.size, 0, none⟩), fun u W => u = .string s, fun u W => u = .map (some b), fun u W => u = .pointer (some ⟨w.heap.size, 0, none⟩), fun u W => u = .string s, fun u W => u = .slice a len cap, fun u W => u = .pointer (some ⟨w.heap.size, 1, none⟩), fun u W => u = .int .i64 (n : Int), fun u W => u = .slice a n cap] ?stable ?step ?last
  case stable =>
    intro i v W W' h hg
    match i, h with
    | 0, h => exact h
    | 1, h => exact h
    | 2, h => exact h
    | 3, h => exact h
    | 4, h => exact h
    | 5, h => exact h
    | 6, h => exact h
    | 7, h => exact h
    | 8, h => exact h
    | 9, h => exact h
    | i + 10, h => exact trivial
  case step =>
    intro f W A hA hg i o hin ho hu K hK
    match i, hin, ho, hu, hK with
    | 0, hin, ho, hu, hK =>
      cases ho
      have e0 : A.eval (.tmp 0) = .map (some b) := ev_out hA 0 rfl
      exact ph_move _ rfl rfl (.map (some b)) e0 (hK _ _ (gb_rr W _) rfl)
    | 1, hin, ho, hu, hK =>
      cases ho
      have e8 : A.eval (.tmp 8) = .pointer (some ⟨w.heap.size, 0, none⟩) := ev_out hA 8 rfl
      exact ph_field _ _ _ rfl rfl _ (.pointer (some ⟨w.heap.size, 0, none⟩)) e8 (by kernel_rfl) (hK _ _ (gb_rr W _) rfl)
    | 2, hin, ho, hu, hK =>
      cases ho
      have e42 : A.eval (.tmp 42) = .pointer (some ⟨w.heap.size, 0, none⟩) := (ev_in hA 42 1 rfl rfl rfl).trans (show f 1 = .pointer (some ⟨w.heap.size, 0, none⟩) from hu 1 (by decide))
      have hc : W.cell? ⟨w.heap.size, 0, none⟩ = some (.string s) := (HK2.out W hg).1
      refine ph_sem rfl rfl (r := .ok (.value (.string s)) W) ?_ (hK _ _ (gb_rr W _) rfl)
      have eC : ∀ c, A.eval (.const c) = c := fun _ => rfl; have eF : ∀ g, A.eval (.func g) = .func (.func g) #[] #[] := fun _ => rfl; generalize A.eval = ρ at *
      clear hA hu hg
      go_simp
    | 3, hin, ho, hu, hK =>
      cases ho
      have e0 : A.eval (.tmp 0) = .map (some b) := ev_out hA 0 rfl
      exact ph_move _ rfl rfl (.map (some b)) e0 (hK _ _ (gb_rr W _) rfl)
    | 4, hin, ho, hu, hK =>
      cases ho
      have e8 : A.eval (.tmp 8) = .pointer (some ⟨w.heap.size, 0, none⟩) := ev_out hA 8 rfl
      exact ph_field _ _ _ rfl rfl _ (.pointer (some ⟨w.heap.size, 0, none⟩)) e8 (by kernel_rfl) (hK _ _ (gb_rr W _) rfl)
    | 5, hin, ho, hu, hK =>
      cases ho
      have e45 : A.eval (.tmp 45) = .pointer (some ⟨w.heap.size, 0, none⟩) := (ev_in hA 45 4 rfl rfl rfl).trans (show f 4 = .pointer (some ⟨w.heap.size, 0, none⟩) from hu 4 (by decide))
      have hc : W.cell? ⟨w.heap.size, 0, none⟩ = some (.string s) := (HK2.out W hg).1
      refine ph_sem rfl rfl (r := .ok (.value (.string s)) W) ?_ (hK _ _ (gb_rr W _) rfl)
      have eC : ∀ c, A.eval (.const c) = c := fun _ => rfl; have eF : ∀ g, A.eval (.func g) = .func (.func g) #[] #[] := fun _ => rfl; generalize A.eval = ρ at *
      clear hA hu hg
      go_simp
    | 6, hin, ho, hu, hK =>
      cases ho
      have e44 : A.eval (.tmp 44) = .map (some b) := (ev_in hA 44 3 rfl rfl rfl).trans (show f 3 = .map (some b) from hu 3 (by decide))
      have e46 : A.eval (.tmp 46) = .string s := (ev_in hA 46 5 rfl rfl rfl).trans (show f 5 = .string s from hu 5 (by decide))
      have hlk := HLK.out W hg
      refine ph_sem rfl rfl (r := .ok (.value (.slice a len cap)) W) ?_ (hK _ _ (gb_rr W _) rfl)
      have eC : ∀ c, A.eval (.const c) = c := fun _ => rfl; have eF : ∀ g, A.eval (.func g) = .func (.func g) #[] #[] := fun _ => rfl; generalize A.eval = ρ at *
      clear hA hu hg hK
      go_simp
    | 7, hin, ho, hu, hK =>
      cases ho
      have e8 : A.eval (.tmp 8) = .pointer (some ⟨w.heap.size, 0, none⟩) := ev_out hA 8 rfl
      exact ph_field _ _ _ rfl rfl _ (.pointer (some ⟨w.heap.size, 1, none⟩)) e8 (by kernel_rfl) (hK _ _ (gb_rr W _) rfl)
    | 8, hin, ho, hu, hK =>
      cases ho
      have e48 : A.eval (.tmp 48) = .pointer (some ⟨w.heap.size, 1, none⟩) := (ev_in hA 48 7 rfl rfl rfl).trans (show f 7 = .pointer (some ⟨w.heap.size, 1, none⟩) from hu 7 (by decide))
      have hc : W.cell? ⟨w.heap.size, 1, none⟩ = some (.int .i64 (n : Int)) := (HK2.out W hg).2
      refine ph_sem rfl rfl (r := .ok (.value (.int .i64 (n : Int))) W) ?_ (hK _ _ (gb_rr W _) rfl)
      have eC : ∀ c, A.eval (.const c) = c := fun _ => rfl; have eF : ∀ g, A.eval (.func g) = .func (.func g) #[] #[] := fun _ => rfl; generalize A.eval = ρ at *
      clear hA hu hg
      go_simp
    | 9, hin, ho, hu, hK =>
      cases ho
      have e47 : A.eval (.tmp 47) = .slice a len cap := (ev_in hA 47 6 rfl rfl rfl).trans (show f 6 = .slice a len cap from hu 6 (by decide))
      have e49 : A.eval (.tmp 49) = .int .i64 (n : Int) := (ev_in hA 49 8 rfl rfl rfl).trans (show f 8 = .int .i64 (n : Int) from hu 8 (by decide))
      have hsl := slice_bh a len cap n HNC.out W
      refine ph_sem rfl rfl (r := .ok (.value (.slice a n cap)) W) ?_ (hK _ _ (gb_rr W _) rfl)
      have eC : ∀ c, A.eval (.const c) = c := fun _ => rfl; have eF : ∀ g, A.eval (.func g) = .func (.func g) #[] #[] := fun _ => rfl; generalize A.eval = ρ at *
      clear hA hu hg hK
      go_simp
    | i + 10, hin, ho, hu, hK => omega
  case last =>
    intro f W A hA hg hu o ho K hK
    cases ho
    have e41 : A.eval (.tmp 41) = .map (some b) := (ev_in hA 41 0 rfl rfl rfl).trans (show f 0 = .map (some b) from hu 0 (by decide))
    have e43 : A.eval (.tmp 43) = .string s := (ev_in hA 43 2 rfl rfl rfl).trans (show f 2 = .string s from hu 2 (by decide))
    have e50 : A.eval (.tmp 50) = .slice a n cap := (ev_in hA 50 9 rfl rfl rfl).trans (show f 9 = .slice a n cap from hu 9 (by decide))
    obtain ⟨w', hup, HF⟩ := HE.out W hg
    refine ph_sem rfl rfl (r := .ok .skip w') ?_ (hK _ _ ?_)
    · have eC : ∀ c, A.eval (.const c) = c := fun _ => rfl
      generalize A.eval = ρ at *
      clear hA hu hg hK
      go_simp
    clear hg e41 e43 e50 hup
    have hA2 := hA.trans (putAll_lit [(.map (some b)), (.pointer (some ⟨w.heap.size, 0, none⟩)), (.string s), (.map (some b)), (.pointer (some ⟨w.heap.size, 0, none⟩)), (.string s), (.slice a len cap), (.pointer (some ⟨w.heap.size, 1, none⟩)), (.int .i64 (n : Int)), (.slice a n cap), (f 10)] (by
      intro j hj
      match j, hj with
      | 0, _ => exact hu 0 (by decide)
      | 1, _ => exact hu 1 (by decide)
      | 2, _ => exact hu 2 (by decide)
      | 3, _ => exact hu 3 (by decide)
      | 4, _ => exact hu 4 (by decide)
      | 5, _ => exact hu 5 (by decide)
      | 6, _ => exact hu 6 (by decide)
      | 7, _ => exact hu 7 (by decide)
      | 8, _ => exact hu 8 (by decide)
      | 9, _ => exact hu 9 (by decide)
      | 10, _ => rfl
      | j + 11, hj => exact absurd hj (by simp)))
    clear hu hA
    subst hA2
    simp only [putAll, putL, List.mem_cons, List.not_mem_nil, List.idxOf_cons, Nat.reduceEqDiff, Nat.reduceBEq, Nat.reduceAdd, or_false, or_true, reduceIte, cond_true, cond_false, List.getD_cons_zero, List.getD_cons_succ, BEq.rfl]
    go_wp2_with fail
    go_end0
    exact HF.out
set_option maxRecDepth 20000 in
set_option maxHeartbeats 2000000 in
theorem fdo2_c {O : Nat → Prop} {V F} (b : Nat) (s : ByteArray) (a : Option Addr) (m c k0 : Nat) (kp : Int) (xs ys : List Int) (w : World) (h : Fl O w b V F) (hs : F s = some xs) (hy : Seg .u8 w a m ys) (hyb : Bytes ys) (hnz : a = none → c = 0) (hmc : m ≤ c) (hk : (k0 : Int) = min kp m) (hx : xs.length + m ≤ 140737488355328) (hbo : b < w.heap.size) (hao : ∀ q o z, a = some ⟨q, o, z⟩ → ¬ O q) :
    Calls Try.prog 77 #[.map (some b), .iface 120 (.agg #[.string s, .slice a m c]), .int .i64 kp] w (FdoA O w b (fset F s (some (xs ++ ys.take k0)))) := by
  obtain ⟨W0, hW0⟩ : ∃ W0, W0 = w.alloc (.cells #[.string s, .slice a m c] 120) := ⟨_, rfl⟩
  have g1 : Gr (fun _ => False) w W0 := by rw [hW0]; exact (Gr.refl _ _).alloc _
  have z1 : W0.heap.size = w.heap.size + 1 := by rw [hW0]; exact World.size_alloc _ _
  have hbk : Bk 120 W0 w.heap.size #[.string s, .slice a m c] := by rw [hW0]; exact (blk_new w _ _).1
  have h1 : Fl O W0 b V F := h.gr g1 (fun _ _ z => z)
  have hkm : k0 ≤ m := by omega
  obtain ⟨v, hv, hvo, hvb⟩ := h1.value hs
  obtain ⟨va, vc, rfl, _, _, hcap⟩ := hvo.seg
  have hvlt : ∀ k, (Value.slice va xs.length vc).ownBlock = some k → k < w.heap.size := by
    intro k hk2
    obtain ⟨v2, hv2, hvo2, _⟩ := h.value hs
    rw [hv] at hv2; cases hv2
    exact (own_lt hvo2 k hk2).2
  obtain ⟨len, hlen⟩ : ∃ len, len = xs.length := ⟨_, rfl⟩
  rw [← hlen] at hv hvo hvlt hx
  have HR2 : Hid (∀ W, W0.grownBy W none → Own 0 W (.slice va len vc) len xs ∧ Seg .u8 W a k0 (ys.take k0)) := fun W hg => ⟨own_gr (G := fun _ => False) hvo (Gr.of hg (by simp)) (fun _ _ z => z), by
    have z := (hy.gr g1 (fun _ _ _ _ z => z)).gr (G := fun _ => False) (Gr.of hg (by simp)) (fun _ _ _ _ z => z)
    exact seg_headB z hkm⟩
  have HK2 : Hid (∀ W, W0.grownBy W (Value.slice va len vc).ownBlock → W.cell? ⟨w.heap.size, 0, none⟩ = some (.string s) ∧ W.cell? ⟨w.heap.size, 1, none⟩ = some (.slice a m c)) := by
    show ∀ W, _
    intro W hg
    have hne : (Value.slice va len vc).ownBlock ≠ some w.heap.size := fun e => by have := hvlt _ e; omega
    exact ⟨Bk.cell (hbk.grew hg hne) 0, Bk.cell (hbk.grew hg hne) 1⟩
  have HM : Hid (∀ W, W0.grownBy W (Value.slice va len vc).ownBlock → MpS W b V) := by
    show ∀ W, _
    intro W hg
    exact h1.mp.gr (G := fun k => (Value.slice va len vc).ownBlock = some k) (Gr.of hg (fun k e => .inl e)) (fun e => (h1.ov s _ b hv e).2 rfl)
  have HLK : Hid (∀ W, W0.grownBy W (Value.slice va len vc).ownBlock → (Instr.lookup 76 (.map (some b)) (.string s) false).run Try.prog W = .ok (.slice va len vc) W) := by
    show ∀ W, _
    intro W hg
    have z := mps_look Try.underlying76 Try.underlying9 (HM.out W hg) (.slice none 0 0) (hz_u8s W) s false
    rw [hv] at z
    simpa using z
  have HE : Hid (∀ W1 W a' c', W0.grownBy W1 none → W1.grownBy W (Value.slice va len vc).ownBlock → Own 0 W (.slice a' (len + k0) c') (len + k0) (xs ++ ys.take k0) → ((Value.slice a' (len + k0) c').ownBlock = (Value.slice va len vc).ownBlock ∨ (Value.slice a' (len + k0) c').ownBlock = some W1.heap.size) →
      ∃ w', (Instr.mapUpdate 76 (.map (some b)) (.string s) (.slice a' (len + k0) c')).run Try.prog W = .ok () w' ∧ Hid (FdoA O w b (fset F s (some (xs ++ ys.take k0))) (.returned (.tuple #[])) w')) := by
    show ∀ W1 W a' c', _
    intro W1 W a' c' q1 q2 q3 q4
    have g2 : Gr (fun k => (Value.slice va len vc).ownBlock = some k) W0 W := (Gr.of q1 (by simp)).trans (Gr.of q2 (fun k e => .inl e))
    obtain ⟨w', hu, hm, hg2, hz⟩ := mps_upd Try.underlying76 Try.underlying9 (HM.out W (gb_trans (gb_wide q1 _) q2)) s (.slice a' (len + k0) c')
    have hsz : W1.heap.size ≤ W.heap.size := q2.size
    have hlt : ∀ k, (Value.slice a' (len + k0) c').ownBlock = some k → k < W.heap.size := fun k e => (own_lt q3 k e).2
    have hnb : ∀ k, (Value.slice a' (len + k0) c').ownBlock = some k → k ≠ b ∧ (O k ∨ (w.heap.size ≤ k ∧ k < w'.heap.size)) ∧ ∀ t u, t ≠ s → V t = some u → u.ownBlock ≠ some k := by
      intro k e
      rcases q4 with q4 | q4
      · rw [q4] at e
        exact ⟨(h1.ov s _ k hv e).2, .inl (h1.ov s _ k hv e).1, fun t u ht hq => h1.apart s t _ u k (fun z => ht z.symm) hv hq e⟩
      · have e2 : k = W1.heap.size := by rw [q4] at e; exact (Option.some.inj e).symm
        have z2 := q1.size
        have z3 := hlt k e
        refine ⟨by omega, .inr ⟨by omega, by omega⟩, fun t u ht hq hk2 => ?_⟩
        obtain ⟨zs, _, hu2, _⟩ := h1.is t u hq
        have := (own_lt hu2 k hk2).2
        omega
    refine ⟨w', hu, rfl, ⟨_, h1.put (fun k hk => .inl hk) s (.slice a' (len + k0) c') (xs ++ ys.take k0) hm ?_ ?_ ?_ (fun k hk => ⟨(hnb k hk).2.1, (hnb k hk).1, (hnb k hk).2.2⟩)⟩, ?_⟩
    · have e : (xs ++ ys.take k0).length = len + k0 := by rw [List.length_append, List.length_take, hy.1, hlen]; omega
      rw [e]
      exact own_gr q3 hg2 (fun k hk => (hnb k hk).1)
    · refine bytes_of_mem (fun x hx2 => ?_)
      rcases List.mem_append.1 hx2 with hx2 | hx2
      · exact hvb.mem x hx2
      · exact hyb.mem x (List.mem_of_mem_take hx2)
    · intro t u zs ht hq ho
      exact own_gr (own_gr ho g2 (fun k hk e => h1.apart s t _ u k (fun z => ht z.symm) hv hq e hk)) hg2 (fun k hk => (h1.ov t u k hq hk).2)
    · exact (g1.wide (fun _ _ z => z.elim)).trans ((g2.wide (fun k _ e => (h1.ov s _ k hv e).1)).trans (grO h.ob hg2))
  have HKC : Hid (k0 ≤ c) := Nat.le_trans hkm hmc
  have HBD : Hid (len + k0 ≤ 140737488355328) := by show _ ≤ _; omega
  have HNZ : Hid (a = none → c = 0) := hnz
  have HMN : Hid ((if (m : Int) < kp then (m : Int) else kp) = (k0 : Int)) := by
    show _ = _
    split <;> omega
  have ht1 : ∀ W, (Instr.typeAssert (.iface 120 (.agg #[.string s, .slice a m c])) 123 118 true).run Try.prog W = .ok (.tuple #[.agg #[.string ByteArray.empty], .bool false]) W := fun W => by kernel_rfl
  have ht2 : ∀ W, (Instr.typeAssert (.iface 120 (.agg #[.string s, .slice a m c])) 123 120 true).run Try.prog W = .ok (.tuple #[.agg #[.string s, .slice a m c], .bool true]) W := fun W => by kernel_rfl
  clear h h1 hbk hv hvo hvb hcap hs hy hyb hnz hmc hk hx hbo hao g1 z1 hkm hvlt hlen HM
  go_enter Try.func77, Try.ntmps77
  go_wp2_with fail
  rw [← hW0]
  clear hW0 ht1 ht2
  refine wp_region_lastB (fun a b => World.grownBy a b (Value.slice va len vc).ownBlock) (fun a b => World.grownBy a b none) (fun a b => World.grownBy a b (Value.slice va len vc).ownBlock) (fun _ _ _ h k => gb_trans h k) (fun _ _ h => gb_wide h _) (fun _ _ h => h) ⟨rfl, rfl, rfl, Nat.le_refl _, fun _ _ _ => rfl⟩ (fun _ _ _ h k => gb_trans h k) ⟨rfl, rfl, rfl, Nat.le_refl _, fun _ _ _ => rfl⟩ 16 15 rfl (by kernel_rfl) [22, 23, 24, 25, 26, 27, 28, 29, 30, 31, 32, 33, 34, 35, 36, 37, 100016] [[], [], [1], [], [], [4], [3, 5], [], [7], [], [], [10], [11], [9, 12], [8, 13], [6, 14], [0, 2, 15]] (by kernel_rfl) (by kernel_rfl) [] (by kernel_rfl) [fun u W => u = .map (some b), fun u W => u = .pointer (some ⟨w.heap.size, 0, none⟩), fun u W => u = .string s, fun u W => u = .map (some b), fun u W => u = .pointer (some ⟨w.heap.size, 0, none⟩), fun u W => u = .string s, fun u W => u = .slice va len vc, fun u W => u = .pointer (some ⟨w.heap.size, 1, none⟩), fun u W => u = .slice a m c, fun u W => u = .int .i64 kp, fun u W => u = .pointer (some ⟨w.heap.size, 1, none⟩), fun u W => u = .slice a m c, fun u W => u = .int .i64 (m : Int), fun u W => u = .int .i64 (k0 : Int), fun u W => u = .slice a k0 c, fun u Wo => ∃ a' c' W1, u = .slice a' (len + k0) c' ∧ Own 0 Wo (.slice a' (len + k0) c') (len + k0) (xs ++ ys.take k0) ∧ W0.grownBy W1 none ∧ W1.grownBy Wo (Value.slice va len vc).ownBlock ∧ ((Value.slice a' (len + k0) c').ownBlock = (Value.slice va len vc).ownBlock ∨ (Value.slice a' (len + k0) c').ownBlock = some W1.heap.size)] ?stable ?stableA ?step ?last
  case stable =>
    intro i v W W' h hg
    match i, h with
    | 0, h => exact h
    | 1, h => exact h
    | 2, h => exact h
    | 3, h => exact h
    | 4, h => exact h
    | 5, h => exact h
    | 6, h => exact h
    | 7, h => exact h
    | 8, h => exact h
    | 9, h => exact h
    | 10, h => exact h
    | 11, h => exact h
    | 12, h => exact h
    | 13, h => exact h
    | 14, h => exact h
    | 15, h => obtain ⟨a', c', W1, h1, h2, h3, h4, h5⟩ := h; exact ⟨a', c', W1, h1, own_gr h2 (Gr.of (G := fun _ => False) hg (by simp)) (fun _ _ z => z), h3, gb_trans h4 (gb_wide hg _), h5⟩
    | i + 16, h => exact trivial
  case stableA =>
    intro i v W W' hne hnu h hg
    match i, hne, h with
    | 0, _, h => exact h
    | 1, _, h => exact h
    | 2, _, h => exact h
    | 3, _, h => exact h
    | 4, _, h => exact h
    | 5, _, h => exact h
    | 6, _, h => exact h
    | 7, _, h => exact h
    | 8, _, h => exact h
    | 9, _, h => exact h
    | 10, _, h => exact h
    | 11, _, h => exact h
    | 12, _, h => exact h
    | 13, _, h => exact h
    | 14, _, h => exact h
    | 15, hne, _ => exact absurd rfl hne
    | i + 16, _, h => exact trivial
  case step =>
    intro f W A hA hg i o hin ho hu K hK
    match i, hin, ho, hu, hK with
    | 0, hin, ho, hu, hK =>
      cases ho
      have e0 : A.eval (.tmp 0) = .map (some b) := ev_out hA 0 rfl
      exact ph_move _ rfl rfl (.map (some b)) e0 (hK _ _ (gb_rr W _) rfl)
    | 1, hin, ho, hu, hK =>
      cases ho
      have e7 : A.eval (.tmp 7) = .pointer (some ⟨w.heap.size, 0, none⟩) := ev_out hA 7 rfl
      exact ph_field _ _ _ rfl rfl _ (.pointer (some ⟨w.heap.size, 0, none⟩)) e7 (by kernel_rfl) (hK _ _ (gb_rr W _) rfl)
    | 2, hin, ho, hu, hK =>
      cases ho
      have e23 : A.eval (.tmp 23) = .pointer (some ⟨w.heap.size, 0, none⟩) := (ev_in hA 23 1 rfl rfl rfl).trans (show f 1 = .pointer (some ⟨w.heap.size, 0, none⟩) from hu 1 (by decide))
      have hc : W.cell? ⟨w.heap.size, 0, none⟩ = some (.string s) := (HK2.out W hg).1
      refine ph_sem rfl rfl (r := .ok (.value (.string s)) W) ?_ (hK _ _ (gb_rr W _) rfl)
      have eC : ∀ c, A.eval (.const c) = c := fun _ => rfl; have eF : ∀ g, A.eval (.func g) = .func (.func g) #[] #[] := fun _ => rfl; generalize A.eval = ρ at *
      clear hA hu hg
      go_simp
    | 3, hin, ho, hu, hK =>
      cases ho
      have e0 : A.eval (.tmp 0) = .map (some b) := ev_out hA 0 rfl
      exact ph_move _ rfl rfl (.map (some b)) e0 (hK _ _ (gb_rr W _) rfl)
    | 4, hin, ho, hu, hK =>
      cases ho
      have e7 : A.eval (.tmp 7) = .pointer (some ⟨w.heap.size, 0, none⟩) := ev_out hA 7 rfl
      exact ph_field _ _ _ rfl rfl _ (.pointer (some ⟨w.heap.size, 0, none⟩)) e7 (by kernel_rfl) (hK _ _ (gb_rr W _) rfl)
    | 5, hin, ho, hu, hK =>
      cases ho
      have e26 : A.eval (.tmp 26) = .pointer (some ⟨w.heap.size, 0, none⟩) := (ev_in hA 26 4 rfl rfl rfl).trans (show f 4 = .pointer (some ⟨w.heap.size, 0, none⟩) from hu 4 (by decide))
      have hc : W.cell? ⟨w.heap.size, 0, none⟩ = some (.string s) := (HK2.out W hg).1
      refine ph_sem rfl rfl (r := .ok (.value (.string s)) W) ?_ (hK _ _ (gb_rr W _) rfl)
      have eC : ∀ c, A.eval (.const c) = c := fun _ => rfl; have eF : ∀ g, A.eval (.func g) = .func (.func g) #[] #[] := fun _ => rfl; generalize A.eval = ρ at *
      clear hA hu hg
      go_simp
    | 6, hin, ho, hu, hK =>
      cases ho
      have e25 : A.eval (.tmp 25) = .map (some b) := (ev_in hA 25 3 rfl rfl rfl).trans (show f 3 = .map (some b) from hu 3 (by decide))
      have e27 : A.eval (.tmp 27) = .string s := (ev_in hA 27 5 rfl rfl rfl).trans (show f 5 = .string s from hu 5 (by decide))
      have hlk := HLK.out W hg
      refine ph_sem rfl rfl (r := .ok (.value (.slice va len vc)) W) ?_ (hK _ _ (gb_rr W _) rfl)
      have eC : ∀ c, A.eval (.const c) = c := fun _ => rfl; have eF : ∀ g, A.eval (.func g) = .func (.func g) #[] #[] := fun _ => rfl; generalize A.eval = ρ at *
      clear hA hu hg hK
      go_simp
    | 7, hin, ho, hu, hK =>
      cases ho
      have e7 : A.eval (.tmp 7) = .pointer (some ⟨w.heap.size, 0, none⟩) := ev_out hA 7 rfl
      exact ph_field _ _ _ rfl rfl _ (.pointer (some ⟨w.heap.size, 1, none⟩)) e7 (by kernel_rfl) (hK _ _ (gb_rr W _) rfl)
    | 8, hin, ho, hu, hK =>
      cases ho
      have e29 : A.eval (.tmp 29) = .pointer (some ⟨w.heap.size, 1, none⟩) := (ev_in hA 29 7 rfl rfl rfl).trans (show f 7 = .pointer (some ⟨w.heap.size, 1, none⟩) from hu 7 (by decide))
      have hc : W.cell? ⟨w.heap.size, 1, none⟩ = some (.slice a m c) := (HK2.out W hg).2
      refine ph_sem rfl rfl (r := .ok (.value (.slice a m c)) W) ?_ (hK _ _ (gb_rr W _) rfl)
      have eC : ∀ c, A.eval (.const c) = c := fun _ => rfl; have eF : ∀ g, A.eval (.func g) = .func (.func g) #[] #[] := fun _ => rfl; generalize A.eval = ρ at *
      clear hA hu hg
      go_simp
    | 9, hin, ho, hu, hK =>
      cases ho
      have e2 : A.eval (.tmp 2) = .int .i64 kp := ev_out hA 2 rfl
      exact ph_move _ rfl rfl (.int .i64 kp) e2 (hK _ _ (gb_rr W _) rfl)
    | 10, hin, ho, hu, hK =>
      cases ho
      have e7 : A.eval (.tmp 7) = .pointer (some ⟨w.heap.size, 0, none⟩) := ev_out hA 7 rfl
      exact ph_field _ _ _ rfl rfl _ (.pointer (some ⟨w.heap.size, 1, none⟩)) e7 (by kernel_rfl) (hK _ _ (gb_rr W _) rfl)
    | 11, hin, ho, hu, hK =>
      cases ho
      have e32 : A.eval (.tmp 32) = .pointer (some ⟨w.heap.size, 1, none⟩) := (ev_in hA 32 10 rfl rfl rfl).trans (show f 10 = .pointer (some ⟨w.heap.size, 1, none⟩) from hu 10 (by decide))
      have hc : W.cell? ⟨w.heap.size, 1, none⟩ = some (.slice a m c) := (HK2.out W hg).2
      refine ph_sem rfl rfl (r := .ok (.value (.slice a m c)) W) ?_ (hK _ _ (gb_rr W _) rfl)
      have eC : ∀ c, A.eval (.const c) = c := fun _ => rfl; have eF : ∀ g, A.eval (.func g) = .func (.func g) #[] #[] := fun _ => rfl; generalize A.eval = ρ at *
      clear hA hu hg
      go_simp
    | 12, hin, ho, hu, hK =>
      cases ho
      have e33 : A.eval (.tmp 33) = .slice a m c := (ev_in hA 33 11 rfl rfl rfl).trans (show f 11 = .slice a m c from hu 11 (by decide))
      refine ph_sem rfl rfl (r := .ok (.value (.int .i64 (m : Int))) W) ?_ (hK _ _ (gb_rr W _) rfl)
      have eC : ∀ c, A.eval (.const c) = c := fun _ => rfl; have eF : ∀ g, A.eval (.func g) = .func (.func g) #[] #[] := fun _ => rfl; generalize A.eval = ρ at *
      clear hA hu hg hK
      go_simp
    | 13, hin, ho, hu, hK =>
      cases ho
      have e31 : A.eval (.tmp 31) = .int .i64 kp := (ev_in hA 31 9 rfl rfl rfl).trans (show f 9 = .int .i64 kp from hu 9 (by decide))
      have e34 : A.eval (.tmp 34) = .int .i64 (m : Int) := (ev_in hA 34 12 rfl rfl rfl).trans (show f 12 = .int .i64 (m : Int) from hu 12 (by decide))
      have hmn := HMN.out
      refine ph_sem rfl rfl (r := .ok (.value (.int .i64 (k0 : Int))) W) ?_ (hK _ _ (gb_rr W _) rfl)
      have eC : ∀ c, A.eval (.const c) = c := fun _ => rfl; have eF : ∀ g, A.eval (.func g) = .func (.func g) #[] #[] := fun _ => rfl; generalize A.eval = ρ at *
      clear hA hu hg hK
      go_simp
    | 14, hin, ho, hu, hK =>
      cases ho
      have e30 : A.eval (.tmp 30) = .slice a m c := (ev_in hA 30 8 rfl rfl rfl).trans (show f 8 = .slice a m c from hu 8 (by decide))
      have e35 : A.eval (.tmp 35) = .int .i64 (k0 : Int) := (ev_in hA 35 13 rfl rfl rfl).trans (show f 13 = .int .i64 (k0 : Int) from hu 13 (by decide))
      have hsl := slice_bh a m c k0 HKC.out W
      refine ph_sem rfl rfl (r := .ok (.value (.slice a k0 c)) W) ?_ (hK _ _ (gb_rr W _) rfl)
      have eC : ∀ c, A.eval (.const c) = c := fun _ => rfl; have eF : ∀ g, A.eval (.func g) = .func (.func g) #[] #[] := fun _ => rfl; generalize A.eval = ρ at *
      clear hA hu hg hK
      go_simp
    | 15, hin, ho, hu, hK =>
      cases ho
      have e28 : A.eval (.tmp 28) = .slice va len vc := (ev_in hA 28 6 rfl rfl rfl).trans (show f 6 = .slice va len vc from hu 6 (by decide))
      have e36 : A.eval (.tmp 36) = .slice a k0 c := (ev_in hA 36 14 rfl rfl rfl).trans (show f 14 = .slice a k0 c from hu 14 (by decide))
      have q0 := HR2.out W (hin.2 (.inl rfl))
      refine ph_catK rfl (.tmp 28) (.tmp 36) rfl len _ xs e28 q0.1 a k0 c (ys.take k0) e36 HNZ.out q0.2 HBD.out ?_
      intro v' W2 k1 k2 k3
      obtain ⟨a', c', rfl, _⟩ := k1.seg
      exact hK _ _ k2 ⟨a', c', W, rfl, k1, hin.2 (.inl rfl), k2, k3⟩
    | i + 16, hin, ho, hu, hK => omega
  case last =>
    intro f W A hA hg hu o ho K hK
    cases ho
    obtain ⟨a', c', W1, hv15, ho15, hw15, hx15, hG15⟩ := hu 15 (by decide)
    have e37 : A.eval (.tmp 37) = (.slice a' (len + k0) c') := (ev_in hA 37 15 rfl rfl rfl).trans hv15
    have e22 : A.eval (.tmp 22) = .map (some b) := (ev_in hA 22 0 rfl rfl rfl).trans (show f 0 = .map (some b) from hu 0 (by decide))
    have e24 : A.eval (.tmp 24) = .string s := (ev_in hA 24 2 rfl rfl rfl).trans (show f 2 = .string s from hu 2 (by decide))
    obtain ⟨w', hup, HF⟩ := HE.out W1 W a' c' hw15 hx15 ho15 hG15
    refine ph_sem rfl rfl (r := .ok .skip w') ?_ (hK _ _ ?_)
    · have eC : ∀ c, A.eval (.const c) = c := fun _ => rfl
      generalize A.eval = ρ at *
      clear hA hu hg hK
      go_simp
    have hA2 := hA.trans (putAll_lit [(.map (some b)), (.pointer (some ⟨w.heap.size, 0, none⟩)), (.string s), (.map (some b)), (.pointer (some ⟨w.heap.size, 0, none⟩)), (.string s), (.slice va len vc), (.pointer (some ⟨w.heap.size, 1, none⟩)), (.slice a m c), (.int .i64 kp), (.pointer (some ⟨w.heap.size, 1, none⟩)), (.slice a m c), (.int .i64 (m : Int)), (.int .i64 (k0 : Int)), (.slice a k0 c), ((.slice a' (len + k0) c')), (f 16)] (by
      intro j hj
      match j, hj with
      | 0, _ => exact hu 0 (by decide)
      | 1, _ => exact hu 1 (by decide)
      | 2, _ => exact hu 2 (by decide)
      | 3, _ => exact hu 3 (by decide)
      | 4, _ => exact hu 4 (by decide)
      | 5, _ => exact hu 5 (by decide)
      | 6, _ => exact hu 6 (by decide)
      | 7, _ => exact hu 7 (by decide)
      | 8, _ => exact hu 8 (by decide)
      | 9, _ => exact hu 9 (by decide)
      | 10, _ => exact hu 10 (by decide)
      | 11, _ => exact hu 11 (by decide)
      | 12, _ => exact hu 12 (by decide)
      | 13, _ => exact hu 13 (by decide)
      | 14, _ => exact hu 14 (by decide)
      | 15, _ => exact hv15
      | 16, _ => rfl
      | j + 17, hj => exact absurd hj (by simp)))
    clear hu hA
    subst hA2
    simp only [putAll, putL, List.mem_cons, List.not_mem_nil, List.idxOf_cons, Nat.reduceEqDiff, Nat.reduceBEq, Nat.reduceAdd, or_false, or_true, reduceIte, cond_true, cond_false, List.getD_cons_zero, List.getD_cons_succ, BEq.rfl]
    clear e37 e22 e24 hup hg ho15 hw15 hx15 hG15 hv15
    go_wp2_with fail
    go_end0
    exact HF.out
end Go.Proofs.Yteoohgjoffpmkaa
