/-
  What sha's behind answers: the words behind one more block. Condition: the block has 64 bytes.
-/
import Derived.Test.YtlfppknpnfeplaaSSp
import Derived.Test.YtlfppknpnfeplaaRInv
namespace Go.Proofs.Ytlfppknpnfeplaa
set_option linter.unusedVariables false
open Go.RowKit

theorem W_addw (a b : Wd) : IntKind.u32.wrap (W a + W b) = W (a + b) := by rw [IntKind.wrap_u32, W_add]
theorem Bk.gb {T w w' b cs} (h : Bk T w b cs) (hg : w.grownBy w' none) : Bk T w' b cs := h.grew hg (by simp)
/-- behind's own blocks: the words, the block, what it answers. -/
def BeB (w wr : World) (N : Nat) (s : St) (bs : List Int) : Prop :=
  Bk 64 wr N (wds s.words) ∧ Bk 65 wr (N + 1) (u8s bs) ∧ Bk 64 wr (N + 1 + 1) (wds (List.replicate 8 0)) ∧ w.grownBy wr none ∧ N = w.heap.size
theorem BeB.gb {w wr wz N s bs} (h : BeB w wr N s bs) (hg : wr.grownBy wz none) : BeB w wz N s bs := ⟨h.1.gb hg, h.2.1.gb hg, h.2.2.1.gb hg, gb_trans h.2.2.2.1 hg, h.2.2.2.2⟩
theorem BeB.gbs {w wr wz N s bs} (h : BeB w wr N s bs) (b : Nat) (hg : wr.grownBy wz (some b)) (hb : N + 1 + 1 < b) : BeB w wz N s bs :=
  ⟨h.1.grew hg (fun e => by cases e; omega), h.2.1.grew hg (fun e => by cases e; omega), h.2.2.1.grew hg (fun e => by cases e; omega), gb_newer h.2.2.2.1 hg (by have := h.2.2.2.2; omega), h.2.2.2.2⟩
theorem beb_new (w : World) (s : St) (bs : List Int) : BeB w (((w.alloc (.cells (wds s.words) 64)).alloc (.cells (u8s bs) 65)).alloc (.cells (wds (List.replicate 8 0)) 64)) w.heap.size s bs := by
  refine ⟨?_, ?_, ?_, gb_trans (gb_trans (World.grownBy_alloc _ _ _) (World.grownBy_alloc _ _ _)) (World.grownBy_alloc _ _ _), rfl⟩
  · exact (Below.heap_alloc _ _ _ (by simp; omega)).trans ((Below.heap_alloc _ _ _ (by simp)).trans (heap_new w _))
  · have := heap_new (w.alloc (.cells (wds s.words) 64)) (.cells (u8s bs) 65)
    rw [World.size_alloc] at this
    exact (Below.heap_alloc _ _ _ (by simp)).trans this
  · have := heap_new ((w.alloc (.cells (wds s.words) 64)).alloc (.cells (u8s bs) 65)) (.cells (wds (List.replicate 8 0)) 64)
    rw [World.size_alloc, World.size_alloc] at this
    exact this

theorem step_load_bk {ops : Array Oper} {o : Oper} {a : Act} {w : World} {K : Act → World → Prop} {Q : Exit → Act → World → Prop} {E : Prop} (hgd : o.guard = none) (T : TypeId) (x : Operand) (ho : o.op = .load T x)
    {d : TypeDesc} (hu : Try.prog.underlying T = some d) (hd : d.isRow = true) {n : Nat} (hi : (Try.prog.info? T).map (·.size) = some n) (b : Nat) (cs : Array Value) (hx : a.eval x = .pointer (some ⟨b, 0, none⟩)) (h : Bk T w b cs) (hl : cs.size = n)
    (k : K (a.put o.dst (.agg cs)) w) : if Region.wanted o (yielded ops a.tmps) = true then Oper.wp Try.prog o a w K Q else E := by
  have hwt : Region.wanted o (yielded ops a.tmps) = true := by simp [Region.wanted, hgd]
  rw [if_pos hwt]
  exact wp_load_mid T x ho b 0 hx cs.toList d (fun j v hv => by rw [Nat.zero_add, cell_of_row w b j _ _ _ h]; simpa using hv) hu hd (by rw [hi, ← hl]; simp) (by simpa using k)
theorem step_store_bk {ops : Array Oper} {o : Oper} {a : Act} {w : World} {K : Act → World → Prop} {Q : Exit → Act → World → Prop} {E : Prop} (hgd : o.guard = none) (T : TypeId) (x y : Operand) (ho : o.op = .store T x y)
    {n : Nat} (hi : (Try.prog.info? T).map (·.size) = some n) (b : Nat) (cs es : Array Value) (hx : a.eval x = .pointer (some ⟨b, 0, none⟩)) (hy : a.eval y = .agg es) (h : Bk T w b cs) (hl : cs.size = n) (hl2 : es.size = n) (h1 : es.all (·.oneCell') = true)
    (k : ∀ w', Bk T w' b es → w.grownBy w' (some b) → K (a.put o.dst undef) w') : if Region.wanted o (yielded ops a.tmps) = true then Oper.wp Try.prog o a w K Q else E := by
  have hwt : Region.wanted o (yielded ops a.tmps) = true := by simp [Region.wanted, hgd]
  rw [if_pos hwt]
  have hst := run_storeVar_row (P := Try.prog) w b T T cs es h (by rw [hi, hl2]) (by rw [hl, hl2]) h1
  unfold Oper.wp execOp
  simp only [ho, hx, hy, Instr.storeAt, Instr.sureAddr, Sem.run_bind, Sem.run_pure, Result.andThen_ok, hst]
  refine k _ ?_ ?_
  · unfold Bk World.setRow
    simp only [Array.getElem?_modify]
    rw [if_pos trivial, h]; rfl
  · exact ⟨rfl, rfl, rfl, by simp [World.setRow], fun k _ hk => setRow_other w b k _ (fun e => hk (by rw [e]))⟩
theorem step_alloc64 {ops : Array Oper} {o : Oper} {a : Act} {w : World} {K : Act → World → Prop} {Q : Exit → Act → World → Prop} {E : Prop} (hgd : o.guard = none) (ho : o.op = .alloc 92)
    (k : ∀ b w', Bk 92 w' b (wds wz64) → w.grownBy w' none → w.heap.size ≤ b → K (a.put o.dst (.pointer (some ⟨b, 0, none⟩))) w') : if Region.wanted o (yielded ops a.tmps) = true then Oper.wp Try.prog o a w K Q else E := by
  have hwt : Region.wanted o (yielded ops a.tmps) = true := by simp [Region.wanted, hgd]
  rw [if_pos hwt]
  have hz := zz64 w
  have := k w.heap.size (w.alloc (.cells (wds wz64) 92)) (blk_new w 92 (wds wz64)).1 (blk_new w 92 (wds wz64)).2 (Nat.le_refl _)
  go_simp
  exact this
/-- The slots at the first region that draws. -/
def beAct (x0 x1 x2 x3 x4 v5 v6 v18 v19 v20 : Value) : Act := { tmps := #[x0, x1, x2, x3, x4, v5, v6, undef, undef, undef, undef, undef, undef, undef, undef, undef, undef, undef, v18, v19, v20, undef, undef, undef, undef, undef, undef, undef, undef, undef, undef, undef, undef, undef, undef, undef, undef, undef, undef, undef, undef, undef, undef, undef, undef, undef, undef, undef, undef, undef, undef, undef, undef, undef, undef, undef, undef, undef, undef, undef, undef, undef, undef, undef, undef, undef, undef, undef, undef, undef, undef, undef, undef, undef, undef, undef, undef, undef, undef, undef, undef, undef, undef, undef, undef, undef, undef, undef, undef, undef, undef, undef, undef, undef, undef, undef, undef, undef, undef, undef, undef, undef, undef, undef, undef, undef, undef, undef, undef, undef, undef, undef, undef, undef, undef, undef, undef, undef, undef, undef, undef, undef, undef, undef, undef, undef, undef, undef, undef, undef, undef, undef, undef], defers := [] }
def beInv (w : World) (N : Nat) (s : St) (bs : List Int) (ws : List Wd) (x0 x1 x2 x3 x4 : Value) (p : List Bool) (a : Act) (wr : World) : Prop :=
  ∃ v5 v6 v18 v19 v20 b5 b6, a = beAct x0 x1 x2 x3 x4 v5 v6 v18 v19 v20 ∧ BeB w wr N s bs
    ∧ (p.getD 0 false = true → v18 = .agg (wds kws)) ∧ (p.getD 1 false = true → v19 = .agg (u8s bs)) ∧ (p.getD 2 false = true → v20 = .agg (wds (ws)))
    ∧ (p.getD 3 false = true → v5 = .pointer (some ⟨b5, 0, none⟩) ∧ N + 1 + 1 < b5 ∧ Bk 92 wr b5 (if p.getD 5 false = true then wds kws else wds wz64))
    ∧ (p.getD 4 false = true → v6 = .pointer (some ⟨b6, 0, none⟩) ∧ N + 1 + 1 < b6 ∧ Bk 92 wr b6 (if p.getD 6 false = true then wds (ws) else wds wz64))
    ∧ (p.getD 3 false = true → p.getD 4 false = true → b5 ≠ b6) ∧ (p.getD 3 false = false → p.getD 5 false = false) ∧ (p.getD 4 false = false → p.getD 6 false = false)
/-- What stays while the rounds go on. -/
def BeL (w wr : World) (N : Nat) (s : St) (bs : List Int) (b5 b6 : Nat) (ws : List Wd) : Prop := BeB w wr N s bs ∧ Bk 92 wr b5 (wds kws) ∧ Bk 92 wr b6 (wds ws)
theorem BeL.drew {w wr N s bs b5 b6 ws} (h : BeL w wr N s bs b5 b6 ws) (n : Nat) : BeL w (wr.drewN n) N s bs b5 b6 ws := ⟨h.1.gb ⟨rfl, rfl, rfl, Nat.le_refl _, fun _ _ _ => rfl⟩, h.2.1, h.2.2⟩
def beCond (i : Nat) (p : List Bool) : Bool := match i with
  | 2 => p.getD 1 false
  | 5 => p.getD 3 false && p.getD 0 false && p.getD 4 false
  | 6 => p.getD 4 false && p.getD 2 false && p.getD 3 false
  | _ => true

set_option maxRecDepth 20000 in
set_option maxHeartbeats 1000000 in
theorem behind_c (s : St) (bs : List Int) (hl : bs.length = 64) (hb : Bytes bs) (w : World) : Calls Try.prog 46 #[.agg (wds s.words), .agg (u8s bs)] w fun r w' => r = .returned (.agg (wds (blk s bs).words)) ∧ w.grownBy w' none := by
  have HNEW : Hid (BeB w (((w.alloc (.cells (wds s.words) 64)).alloc (.cells (u8s bs) 65)).alloc (.cells (wds (List.replicate 8 0)) 64)) w.heap.size s bs) := beb_new w s bs
  obtain ⟨N, hN⟩ : ∃ N, N = w.heap.size := ⟨_, rfl⟩
  obtain ⟨ws, hws⟩ : ∃ ws, ws = spr bs 64 := ⟨_, rfl⟩
  have HBL : Hid (blk s bs = s.add (rnds s ws 64)) := by show _ = _; rw [hws]; rfl
  have HWL : Hid (ws.length = 64) := by show _ = _; rw [hws, spr_len]
  have HSP : Hid (∀ w, Calls Try.prog 58 #[.agg (u8s bs)] w fun r w' => r = .returned (.agg (wds ws)) ∧ w.grownBy w' none) := by rw [hws]; exact spread_c bs hl hb
  clear hws
  obtain ⟨S', hS'⟩ : ∃ S', S' = blk s bs := ⟨_, rfl⟩
  rw [← hS'] at HBL ⊢
  clear hS'
  obtain ⟨sw, hsw⟩ : ∃ sw, sw = wds s.words := ⟨_, rfl⟩
  rw [← hsw]
  have HSW : Hid (sw = wds s.words) := hsw
  clear hsw
  go_enter Try.func46, Try.ntmps46
  go_wp2_with fail
  generalize hW1 : World.alloc (World.alloc (World.alloc w _) _) _ = W1
  have H0 : Hid (BeB w W1 N s bs) := by rw [← hW1, hN, HSW.out]; exact HNEW
  rw [← hN]
  clear hW1 HNEW
  have HN : Hid (N = w.heap.size) := hN
  clear hN
  refine wp_region_inv (by kernel_rfl) beCond (by kernel_rfl) (beInv w N s bs ws (.agg sw) (.agg (u8s bs)) (.pointer (some ⟨N, 0, none⟩)) (.pointer (some ⟨N + 1, 0, none⟩)) (.pointer (some ⟨N + 1 + 1, 0, none⟩))) ?_ ?_ ?_
  · exact ⟨undef, undef, undef, undef, undef, 0, 0, rfl, H0.out.gb ⟨rfl, rfl, rfl, Nat.le_refl _, fun _ _ _ => rfl⟩, fun h => by simp at h, fun h => by simp at h, fun h => by simp at h, fun h => by simp at h, fun h => by simp at h, fun h => by simp at h, fun _ => rfl, fun _ => rfl⟩
  · rintro p a wr i o hp ⟨v5, v6, v18, v19, v20, b5, b6, rfl, hB, h0, h1, h2, h3, h4, h56, hp5, hp6⟩ ho hpi hcd K' hK
    obtain ⟨p0, p1, p2, p3, p4, p5, p6, rfl⟩ : ∃ p0 p1 p2 p3 p4 p5 p6, p = [p0, p1, p2, p3, p4, p5, p6] := by
      match p, hp with
      | [p0, p1, p2, p3, p4, p5, p6], _ => exact ⟨p0, p1, p2, p3, p4, p5, p6, rfl⟩
    simp only [List.getD_cons_zero, List.getD_cons_succ] at h0 h1 h2 h3 h4 h56 hp5 hp6
    match i, ho with
    | 0, ho =>
      cases ho
      rw [if_pos (show Region.wanted _ _ = true from rfl)]
      go_simp
      refine (numbers_c wr).mono ?_
      rintro r w1 ⟨rfl, hg⟩
      refine hK _ _ ⟨v5, v6, .agg (wds kws), v19, v20, b5, b6, rfl, hB.gb hg, fun _ => rfl, h1, h2, fun h => ?_, fun h => ?_, h56, hp5, hp6⟩
      · have := h3 h; exact ⟨this.1, this.2.1, this.2.2.gb hg⟩
      · have := h4 h; exact ⟨this.1, this.2.1, this.2.2.gb hg⟩
    | 1, ho =>
      cases ho
      refine step_load_bk rfl 65 (.tmp 3) rfl Try.underlying65 rfl info64b (N + 1) (u8s bs) rfl hB.2.1 (by rw [u8s_size]; exact hl) ?_
      exact hK _ _ ⟨v5, v6, v18, .agg (u8s bs), v20, b5, b6, rfl, hB, h0, fun _ => rfl, h2, h3, h4, h56, hp5, hp6⟩
    | 2, ho =>
      cases ho
      have e1 : p1 = true := by simpa [beCond] using hcd
      obtain rfl := h1 e1
      rw [if_pos (show Region.wanted _ _ = true from rfl)]
      go_simp
      refine (HSP.out wr).mono ?_
      rintro r w1 ⟨rfl, hg⟩
      refine hK _ _ ⟨v5, v6, v18, .agg (u8s bs), .agg (wds (ws)), b5, b6, rfl, hB.gb hg, h0, fun _ => rfl, fun _ => rfl, fun h => ?_, fun h => ?_, h56, hp5, hp6⟩
      · have := h3 h; exact ⟨this.1, this.2.1, this.2.2.gb hg⟩
      · have := h4 h; exact ⟨this.1, this.2.1, this.2.2.gb hg⟩
    | 3, ho =>
      cases ho
      have e3 : p3 = false := by simpa using hpi
      refine step_alloc64 rfl rfl ?_
      intro b w1 hbk hg hsz
      have e5 : p5 = false := hp5 e3
      refine hK _ _ ⟨.pointer (some ⟨b, 0, none⟩), v6, v18, v19, v20, b, b6, rfl, hB.gb hg, h0, h1, h2, fun h => ⟨rfl, ?_, ?_⟩, fun h => ?_, fun _ h => ?_, (fun h => by cases h), hp6⟩
      · have := lt_of_block hB.2.2.1; omega
      · show Bk _ _ _ (if p5 = true then _ else _); rw [e5]; exact hbk
      · have := h4 h; exact ⟨this.1, this.2.1, this.2.2.gb hg⟩
      · have := lt_of_block (h4 h).2.2; omega
    | 4, ho =>
      cases ho
      have e4 : p4 = false := by simpa using hpi
      refine step_alloc64 rfl rfl ?_
      intro b w1 hbk hg hsz
      have e6 : p6 = false := hp6 e4
      refine hK _ _ ⟨v5, .pointer (some ⟨b, 0, none⟩), v18, v19, v20, b5, b, rfl, hB.gb hg, h0, h1, h2, fun h => ?_, fun h => ⟨rfl, ?_, ?_⟩, fun h _ => ?_, hp5, (fun h => by cases h)⟩
      · have := h3 h; exact ⟨this.1, this.2.1, this.2.2.gb hg⟩
      · have := lt_of_block hB.2.2.1; omega
      · show Bk _ _ _ (if p6 = true then _ else _); rw [e6]; exact hbk
      · have := lt_of_block (h3 h).2.2; omega
    | 5, ho =>
      cases ho
      obtain ⟨⟨e3, e0⟩, e4⟩ : (p3 = true ∧ p0 = true) ∧ p4 = true := by simpa [beCond] using hcd
      have e5 : p5 = false := by simpa using hpi
      obtain ⟨rfl, hN5, hb5⟩ := h3 e3
      obtain rfl := h0 e0
      rw [e5] at hb5
      refine step_store_bk rfl 92 (.tmp 5) (.tmp 18) rfl info64 b5 (wds wz64) (wds kws) rfl rfl hb5 rfl rfl (wds_one _) ?_
      intro w1 hbk hg
      refine hK _ _ ⟨_, v6, _, v19, v20, b5, b6, rfl, hB.gbs b5 hg hN5, fun _ => rfl, h1, h2, fun h => ⟨rfl, hN5, hbk⟩, fun h => ?_, h56, (fun h => by rw [show p3 = false from h] at e3; cases e3), hp6⟩
      have h6 := h4 h
      exact ⟨h6.1, h6.2.1, h6.2.2.grew hg (fun e => by cases e; exact h56 e3 h rfl)⟩
    | 6, ho =>
      cases ho
      obtain ⟨⟨e4, e2⟩, e3⟩ : (p4 = true ∧ p2 = true) ∧ p3 = true := by simpa [beCond] using hcd
      have e6 : p6 = false := by simpa using hpi
      obtain ⟨rfl, hN6, hb6⟩ := h4 e4
      obtain rfl := h2 e2
      rw [e6] at hb6
      refine step_store_bk rfl 92 (.tmp 6) (.tmp 20) rfl info64 b6 (wds wz64) (wds (ws)) rfl rfl hb6 rfl (by rw [wds_size]; exact HWL.out) (wds_one _) ?_
      intro w1 hbk hg
      refine hK _ _ ⟨v5, _, v18, v19, _, b5, b6, rfl, hB.gbs b6 hg hN6, h0, h1, fun _ => rfl, fun h => ?_, fun h => ⟨rfl, hN6, hbk⟩, h56, hp5, (fun h => by rw [show p4 = false from h] at e4; cases e4)⟩
      have h5 := h3 h
      exact ⟨h5.1, h5.2.1, h5.2.2.grew hg (fun e => by cases e; exact h56 h e4 rfl)⟩
    | i + 7, ho => simp at ho
  · rintro a wr ⟨v5, v6, v18, v19, v20, b5, b6, rfl, hB, h0, h1, h2, h3, h4, h56, hp5, hp6⟩
    obtain rfl := h0 rfl
    obtain rfl := h1 rfl
    obtain rfl := h2 rfl
    obtain ⟨rfl, hN5, hb5⟩ := h3 rfl
    obtain ⟨rfl, hN6, hb6⟩ := h4 rfl
    have HB : Hid (BeB w wr N s bs) := hB
    have H5 : Hid (Bk 92 wr b5 (wds kws)) := hb5
    have H6 : Hid (Bk 92 wr b6 (wds (ws))) := hb6
    clear h0 h1 h2 h3 h4 h56 hb5 hb6 hB hp5 hp6
    clear HSP hl hb
    have cs : ∀ i v, (wds s.words)[i]? = some v → wr.cell? ⟨N, i, none⟩ = some v := fun i v h => (HB.out.1.cell i).trans h
    obtain ⟨c0, c1, c2, c3, c4, c5, c6, c7⟩ : wr.cell? ⟨N, 0, none⟩ = some (.int .u32 (W s.a)) ∧ wr.cell? ⟨N, 1, none⟩ = some (.int .u32 (W s.b)) ∧ wr.cell? ⟨N, 2, none⟩ = some (.int .u32 (W s.c)) ∧ wr.cell? ⟨N, 3, none⟩ = some (.int .u32 (W s.d)) ∧ wr.cell? ⟨N, 4, none⟩ = some (.int .u32 (W s.e)) ∧ wr.cell? ⟨N, 5, none⟩ = some (.int .u32 (W s.f)) ∧ wr.cell? ⟨N, 6, none⟩ = some (.int .u32 (W s.g)) ∧ wr.cell? ⟨N, 7, none⟩ = some (.int .u32 (W s.h)) := ⟨cs 0 _ rfl, cs 1 _ rfl, cs 2 _ rfl, cs 3 _ rfl, cs 4 _ rfl, cs 5 _ rfl, cs 6 _ rfl, cs 7 _ rfl⟩
    clear cs
    unfold beAct
    dsimp only
    go_wp2
    go_quiet (fail)
    have H0 : Hid (BeL w (wr.drewN nq) N s bs b5 b6 ws) := ⟨HB.out.gb ⟨rfl, rfl, rfl, Nat.le_refl _, fun _ _ _ => rfl⟩, H5.out, H6.out⟩
    generalize wr.drewN nq = w2 at H0 ⊢
    clear c0 c1 c2 c3 c4 c5 c6 c7 HB H5 H6
    go_wp2
    go_loopw [7, 8, 9, 10, 11, 12, 13, 14, 37] (fun va vb vc vd ve vf vg vh i wr => ∃ k : Nat, k ≤ 64 ∧ i = .int .i64 k ∧ va = .int .u32 (W (rnds s ws k).a) ∧ vb = .int .u32 (W (rnds s ws k).b) ∧ vc = .int .u32 (W (rnds s ws k).c) ∧ vd = .int .u32 (W (rnds s ws k).d) ∧ ve = .int .u32 (W (rnds s ws k).e) ∧ vf = .int .u32 (W (rnds s ws k).f) ∧ vg = .int .u32 (W (rnds s ws k).g) ∧ vh = .int .u32 (W (rnds s ws k).h) ∧ Hid (BeL w wr N s bs b5 b6 ws)) (fun _ _ _ _ _ _ _ _ i _ => 64 - (intOf i).toNat)
    case atStart => exact ⟨0, Nat.zero_le _, rfl, rfl, rfl, rfl, rfl, rfl, rfl, rfl, rfl, H0⟩
    case round =>
      obtain ⟨k, hk, rfl, rfl, rfl, rfl, rfl, rfl, rfl, rfl, rfl, hr⟩ := hrel
      clear H0
      by_cases hlt : k < 64
      · have c5 : wr.cell? ⟨b5, k, none⟩ = some (.int .u32 (W (ks k))) := by
          rw [hr.out.2.1.cell k, wds_at _ _ (by show k < 64; exact hlt)]
          show some (Value.int .u32 (W ((kk.map (BitVec.ofNat 32)).getD k 0))) = some (Value.int .u32 (W (BitVec.ofNat 32 (kk.getD k 0))))
          congr 3
          simp only [List.getD_eq_getElem?_getD, List.getElem?_map]
          rw [List.getElem?_eq_getElem (show k < kk.length from hlt)]; rfl
        have c6 : wr.cell? ⟨b6, k, none⟩ = some (.int .u32 (W (ws.getD k 0))) := by
          rw [hr.out.2.2.cell k, wds_at _ _ (by rw [HWL.out]; exact hlt)]
        have HR : Hid (rnds s ws (k + 1) = rnd (rnds s ws k) (ks k) (ws.getD k 0)) := rfl
        obtain ⟨K, hK⟩ : ∃ K, K = ks k := ⟨_, rfl⟩
        obtain ⟨X, hX⟩ : ∃ X, X = ws.getD k 0 := ⟨_, rfl⟩
        rw [← hK] at c5 HR
        rw [← hX] at c6 HR
        obtain ⟨R, hR⟩ : ∃ R, R = rnds s ws k := ⟨_, rfl⟩
        rw [← hR] at HR ⊢
        clear hK hX hR
        obtain ⟨a, b, c, d, e, f, g, h⟩ := R
        dsimp only
        obtain ⟨S1, hS1⟩ : ∃ x, x = rotI 6 e ^^^ rotI 11 e ^^^ rotI 25 e := ⟨_, rfl⟩
        obtain ⟨S0, hS0⟩ : ∃ x, x = rotI 2 a ^^^ rotI 13 a ^^^ rotI 22 a := ⟨_, rfl⟩
        obtain ⟨CH, hCH⟩ : ∃ x, x = (e &&& f) ^^^ (~~~ e &&& g) := ⟨_, rfl⟩
        obtain ⟨MJ, hMJ⟩ : ∃ x, x = (a &&& b) ^^^ (a &&& c) ^^^ (b &&& c) := ⟨_, rfl⟩
        have HRR : Hid (rnds s ws (k + 1) = ⟨h + S1 + CH + K + X + (S0 + MJ), a, b, c, d + (h + S1 + CH + K + X), e, f, g⟩) := by
          show _ = _
          rw [HR.out, hS1, hS0, hCH, hMJ]; rfl
        have x1 := W_xor (rotI 6 e) (rotI 11 e)
        have x2 := W_xor (rotI 6 e ^^^ rotI 11 e) (rotI 25 e)
        have y1 := W_xor (rotI 2 a) (rotI 13 a)
        have y2 := W_xor (rotI 2 a ^^^ rotI 13 a) (rotI 22 a)
        have n1 := W_and e f
        have n2 := W_com e
        have n2b := W_not e
        have n2c := W_neg e
        have n3 := W_and (~~~ e) g
        have n4 := W_xor (e &&& f) (~~~ e &&& g)
        have m1 := W_and a b
        have m2 := W_and a c
        have m3 := W_and b c
        have m4 := W_xor (a &&& b) (a &&& c)
        have m5 := W_xor ((a &&& b) ^^^ (a &&& c)) (b &&& c)
        rw [← hS1] at x2
        rw [← hS0] at y2
        rw [← hCH] at n4
        rw [← hMJ] at m5
        have p1 := W_add h S1
        have p2 := W_add (h + S1) CH
        have p3 := W_add (h + S1 + CH) K
        have p4 := W_add (h + S1 + CH + K) X
        have q1 := W_addw h S1
        have q2 := W_addw (h + S1) CH
        have q3 := W_addw (h + S1 + CH) K
        have q4 := W_addw (h + S1 + CH + K) X
        have p5 := W_add S0 MJ
        obtain ⟨T, hT⟩ : ∃ T, T = h + S1 + CH + K + X := ⟨_, rfl⟩
        obtain ⟨U, hU⟩ : ∃ U, U = S0 + MJ := ⟨_, rfl⟩
        rw [← hT] at p4 q4 HRR
        rw [← hU] at p5 HRR
        have p6 := W_add d T
        have p7 := W_add T U
        clear hS1 hS0 hCH hMJ HR hT hU
        go_wp2
        go_quiet ((go_at_call 59; go_must (refine Calls.quiet_of_same (turn_c _ _ (by decide) _))))
        have hr2 : Hid (BeL w (wr.drewN nq) N s bs b5 b6 ws) := hr.out.drew nq
        generalize wr.drewN nq = w3 at hr2 ⊢
        clear hr c5 c6
        go_wp2_with (go_at_call 59; go_must (refine (turn_c _ _ (by decide) _).mono ?_); rintro r w1 ⟨rfl, rfl⟩)
        go_roundw
        case rel => exact ⟨k + 1, by omega, by go_num, by rw [HRR.out, p7], by rw [HRR.out], by rw [HRR.out], by rw [HRR.out], by rw [HRR.out, p6], by rw [HRR.out], by rw [HRR.out], by rw [HRR.out], hr2⟩
        case measure => simp [intOf]; omega
      · obtain rfl : k = 64 := by omega
        have cs : ∀ i v, (wds s.words)[i]? = some v → wr.cell? ⟨N, i, none⟩ = some v := fun i v h => (hr.out.1.1.cell i).trans h
        obtain ⟨c0, c1, c2, c3, c4, c5, c6, c7⟩ : wr.cell? ⟨N, 0, none⟩ = some (.int .u32 (W s.a)) ∧ wr.cell? ⟨N, 1, none⟩ = some (.int .u32 (W s.b)) ∧ wr.cell? ⟨N, 2, none⟩ = some (.int .u32 (W s.c)) ∧ wr.cell? ⟨N, 3, none⟩ = some (.int .u32 (W s.d)) ∧ wr.cell? ⟨N, 4, none⟩ = some (.int .u32 (W s.e)) ∧ wr.cell? ⟨N, 5, none⟩ = some (.int .u32 (W s.f)) ∧ wr.cell? ⟨N, 6, none⟩ = some (.int .u32 (W s.g)) ∧ wr.cell? ⟨N, 7, none⟩ = some (.int .u32 (W s.h)) := ⟨cs 0 _ rfl, cs 1 _ rfl, cs 2 _ rfl, cs 3 _ rfl, cs 4 _ rfl, cs 5 _ rfl, cs 6 _ rfl, cs 7 _ rfl⟩
        clear cs hlt hk
        obtain ⟨R, hR⟩ : ∃ R, R = rnds s ws 64 := ⟨_, rfl⟩
        rw [← hR] at HBL ⊢
        clear hR
        have z0 := W_add s.a R.a
        have z1 := W_add s.b R.b
        have z2 := W_add s.c R.c
        have z3 := W_add s.d R.d
        have z4 := W_add s.e R.e
        have z5 := W_add s.f R.f
        have z6 := W_add s.g R.g
        have z7 := W_add s.h R.h
        have HE : Hid (#[.int .u32 (W (s.a + R.a)), .int .u32 (W (s.b + R.b)), .int .u32 (W (s.c + R.c)), .int .u32 (W (s.d + R.d)), .int .u32 (W (s.e + R.e)), .int .u32 (W (s.f + R.f)), .int .u32 (W (s.g + R.g)), .int .u32 (W (s.h + R.h))] = wds S'.words) := by
          show _ = _
          rw [HBL.out]; rfl
        go_wp2_with (refine wpList_store_bk 64 rfl (.tmp 4) (.tmp 132) rfl info8 (N + 1 + 1) (wds (List.replicate 8 0)) (wds S'.words) rfl (by rw [← HE.out]; rfl) hr.out.1.2.2.1 rfl rfl (wds_one _) ?_; intro w4 h1 h2; have H4 : Hid (Bk 64 w4 (N + 1 + 1) (wds S'.words) ∧ w.grownBy w4 none) := ⟨h1, gb_newer hr.out.1.2.2.2.1 h2 (by have := hr.out.1.2.2.2.2; omega)⟩; clear h1 h2)
        refine bodyPost_ret (results_cell1 Try.results46 _ _ _ ⟨N + 1 + 1, 0, none⟩ (.agg (wds S'.words)) rfl (bk_load (T := 64) Try.underlying64 rfl info8 H4.out.1 rfl)) rfl ?_
        exact ⟨rfl, H4.out.2⟩
end Go.Proofs.Ytlfppknpnfeplaa
