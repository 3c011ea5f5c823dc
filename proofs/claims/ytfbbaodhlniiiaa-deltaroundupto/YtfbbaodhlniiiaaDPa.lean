/-
  What the law's plainAll answers of a list of updates: the same list, of the document's type. Condition: at most 2^30 updates.
-/
import Derived.Test.YtfbbaodhlniiiaaDFa
import Derived.Test.YtfbbaodhlniiiaaDCv
namespace Go.Proofs.Ytfbbaodhlniiiaa.Dl
open Go.RowKit
set_option linter.unusedVariables false

/-- The document's updates one behind the other, in memory of one's own. -/
def GOwn (B : Nat) (w : World) (v : Value) (X : List Upd) : Prop := w.ownsRow B 96 7 v X.length (X.flatMap Upd.cells)
theorem infoG7 : (Try.prog.info? 96).map (fun i => (i.zero, i.size, i.bytes)) = some (some (.agg noUpd), 7, 72) := by kernel_rfl
theorem gown_nil (B : Nat) (w : World) : GOwn B w (.slice none 0 0) [] := ⟨rfl, .inl ⟨rfl, rfl⟩⟩
theorem GOwn.gb {B : Nat} {w w' : World} {v : Value} {X : List Upd} {row : Option Nat} (h : GOwn B w v X) (hg : w.grownBy w' row) (hr : ∀ k, row = some k → k < B) : GOwn B w' v X := by
  refine ⟨h.1, ?_⟩
  rcases h.2 with q | ⟨g, cap, cur, q1, q2, q3, q4⟩
  · exact .inl q
  · exact .inr ⟨g, cap, cur, q1, q2, (hg.block g (lt_of_block q3) (fun e => by have := hr g e.symm; omega)).trans q3, q4⟩
theorem GOwn.lo {B : Nat} {w : World} {v : Value} {X : List Upd} (h : GOwn B w v X) : ∀ g, v.ownBlock = some g → B ≤ g := by
  intro g hg
  rcases h.2 with ⟨rfl, _⟩ | ⟨g', cap, cur, rfl, hB, _⟩
  · cases hg
  · cases hg; exact hB
/-- One of them appended. -/
theorem wpList_gupd {ops : Array Oper} {rest : List Oper} {o : Oper} {a : Act} {w0 : World} {Q : Exit → Act → World → Prop} (hgd : o.guard = none) (s x : Operand)
    (ho : o.op = .call { callee := .builtin .append, args := #[s, x], argTypes := #[34, 34] }) (B : Nat) (v : Value) (X : List Upd) (u : Upd) (hs : a.eval s = v) (hown : GOwn B w0 v X)
    (hx : a.eval x = .slice (some ⟨w0.heap.size, 0, none⟩) 1 1) (hn : X.length ≤ 137438953472) (hB : B ≤ w0.heap.size)
    (h : ∀ v' w', GOwn B w' v' (X ++ [u]) → w0.grownBy w' v.ownBlock → wpList Try.prog ops Q rest (a.put o.dst v') w') :
    wpList Try.prog ops Q (o :: rest) a (w0.alloc (.cells u.cells.toArray 96)) := by
  obtain ⟨i, hi, hz, h4, h5⟩ := info_parts infoG7
  have ho' : GOwn B (w0.alloc (.cells u.cells.toArray 96)) v X := hown.gb (gb_alloc _ _) (fun k hk => by cases hk)
  refine wpList_append_lies _ hgd s x 34 ho B 96 i (.agg noUpd) 7 72 Try.underlying34 hi hz h4 h5 rfl (by omega) v X.length _ hs ho' ⟨w0.heap.size, 0, none⟩ 1 1 u.cells hx rfl (World.news_of_block (heap_new w0 _)) (by intro z hz; simp [Upd.cells] at hz; rcases hz with rfl | rfl | rfl | rfl | rfl | rfl | rfl <;> rfl) (by omega) (by unfold maxLen; omega) (by omega) (Nat.le_trans hB (gb_alloc w0 _).size) _ rfl ?_
  intro g cap w' k1 k2 k3 k4
  refine h _ w' ?_ (gb_trans (gb_wide (gb_alloc w0 _) _) k2)
  unfold GOwn
  rw [List.length_append, List.flatMap_append]
  simpa using k1
set_option maxRecDepth 20000 in
set_option maxHeartbeats 2000000 in
theorem plainAll_c (a : Option Addr) (n cap : Nat) (X : List Upd) (w : World) (h : Upds w a n X) (hn : n ≤ 1073741824) :
    Calls Try.prog 11 #[.slice a n cap] w fun r w' => ∃ v, r = .returned v ∧ GOwn w.heap.size w' v X ∧ Below w.heap.size w w' := by
  have HX : Hid (Upds w a n X) := h
  obtain ⟨B, hB⟩ : ∃ B, B = w.heap.size := ⟨_, rfl⟩
  have HBW : Hid (B = w.heap.size) := hB
  clear h
  go_enter Try.func11, Try.ntmps11
  rw [← hB]
  clear hB
  go_wp2_with fail
  go_loopw [3, 4] (fun v i wr => ∃ (k : Nat) (bv : Value), k ≤ n ∧ v = bv ∧ i = .int .i64 (k : Int) ∧ Hid (GOwn B wr bv (X.take k) ∧ Below B w wr ∧ B ≤ wr.heap.size)) (fun _ i _ => n - (intOf i).toNat)
  case atStart => exact ⟨0, _, Nat.zero_le _, rfl, rfl, gown_nil _ _, by rw [HBW.out]; exact Below.refl _ _, by rw [HBW.out]; exact Nat.le_refl _⟩
  case round =>
    obtain ⟨k, bv, hk, hbv, rfl, hr⟩ := hrel
    obtain rfl := hbv.symm
    by_cases hlt : k < n
    · have hi1 : (k : Int) < n := by omega
      rcases HX.out.2 with z | ⟨b, off, rfl, hbl, hcl⟩
      · omega
      obtain ⟨u, hu⟩ : ∃ u, u = upAt X k := ⟨_, rfl⟩
      have HRG : Hid (wr.rangeAt b (off + k * 7) u.cells) := by
        rw [hu]
        intro j v hv
        exact (hr.out.2.1.cell (p := ⟨b, off + k * 7 + j, none⟩) (by rw [HBW.out]; exact hbl)).trans (hcl k hlt j v hv)
      have HT : Hid (X.take (k + 1) = X.take k ++ [u] ∧ (X.take k).length ≤ 137438953472) := ⟨by rw [hu]; exact take_more X k (by rw [HX.out.1]; exact hlt), by rw [List.length_take]; omega⟩
      clear hu hcl
      obtain ⟨q, c, m, kd, key, val, ver⟩ := u
      have HL : Hid (∀ W, Calls Try.prog 37 #[.agg #[.int .i64 q, .int .i64 c, .int .i64 m, .int .i64 kd, .string key, .string val, .int .i64 ver]] W fun r w' => r = .returned (.agg #[.int .i64 q, .int .i64 c, .int .i64 m, .int .i64 kd, .string key, .string val, .int .i64 ver]) ∧ W.grownBy w' none) := plain_c q c m kd key val ver
      go_wp2_with (first
        | (refine wpList_load_mid rfl 27 (.tmp 14) rfl b (off + k * 7) (by first | rfl | simp) [.int .i64 q, .int .i64 c, .int .i64 m, .int .i64 kd, .string key, .string val, .int .i64 ver] _ HRG.out Try.underlying27 rfl (by kernel_rfl) ?_)
        | (go_at_call 37; go_must (refine (Calls.mono (HL.out _) ?_)); rintro r x2 ⟨rfl, h2⟩; have A2 : Hid (GOwn B x2 bv (X.take k) ∧ Below B w x2 ∧ B ≤ x2.heap.size) := ⟨hr.out.1.gb h2 (fun z hz => by cases hz), hr.out.2.1.trans ((gb_below h2).mono hr.out.2.2), Nat.le_trans hr.out.2.2 h2.size⟩; clear h2)
        | (have z := A2; clear z; (fail_if_success (have z := A3)); at_builtin; go_must (refine wpList_gupd rfl (.tmp 11) (.tmp 17) rfl B bv (X.take k) ⟨q, c, m, kd, key, val, ver⟩ rfl A2.out.1 rfl HT.out.2 A2.out.2.2 ?_); intro v3 x3 ho hg; rw [← HT.out.1] at ho; have A3 : Hid (GOwn B x3 v3 (X.take (k + 1)) ∧ Below B w x3 ∧ B ≤ x3.heap.size) := ⟨ho, A2.out.2.1.trans ((Below.refl _ _).grown hg A2.out.2.2 (fun z hz => A2.out.1.lo z hz)), Nat.le_trans A2.out.2.2 hg.size⟩; clear ho hg))
      go_roundw
      case rel => exact ⟨k + 1, v3, by omega, rfl, by go_num, A3.out.1, A3.out.2⟩
      case measure => simp [intOf]; omega
    · obtain rfl : k = n := by omega
      have hge : ¬ (k : Int) < k := by omega
      go_wp2_with fail
      go_ret
      have e : X.take k = X := List.take_of_length_le (by rw [HX.out.1]; exact Nat.le_refl _)
      have ho := hr.out.1
      rw [e] at ho
      exact ⟨bv, rfl, ho, hr.out.2.1⟩
end Go.Proofs.Ytfbbaodhlniiiaa.Dl
