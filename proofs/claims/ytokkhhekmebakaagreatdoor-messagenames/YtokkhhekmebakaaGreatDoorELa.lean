/-
  What message.lay answers of whatever message, given what the pass's carry comes to: no error, ErrMessageKind, or ErrMessageField (what a field gives up by panic is caught). Condition: the list of kinds lies in memory as the program's text lays it.
-/
import Derived.Test.YtokkhhekmebakaaGreatDoorEMg
import Derived.Defers
namespace Go.Proofs.YtokkhhekmebakaaGreatDoor
open Go.RowKit
set_option linter.unusedVariables false

theorem lcatch_panicking (q : Nat) (e0 : Int) (u : TypeId) (pv : Value) (older : List PanicEntry) (w : World) (h : Bk 51 w q #[.int .i64 e0]) :
    CallsD Tryz.prog 51 #[.pointer (some ⟨q, 0, none⟩)] (.panicking ({ v := .iface u pv, recovered := false } :: older)) w fun e u' w' =>
      e = .returned (.tuple #[]) ∧ u' = .panicking ({ v := .iface u pv, recovered := true } :: older) ∧ w' = w.setCell ⟨q, 0, none⟩ (.int .i64 151) := by
  have cq : w.cell? ⟨q, 0, none⟩ = some (.int .i64 e0) := h.cell 0
  have fq : w.frozen? ⟨q, 0, none⟩ = false := frozen_of_row w q 0 _ _ h
  clear h
  refine callsD_of_wpS Tryz.func51 rfl fun c₀ cs hu => ?_
  apply wpS_seq
  apply wpS_region
  simp [wpOpsS, go_sem, recoverD, hu, Tryz.ntmps51, Exit.thenS]
  refine wpS_cond (t := true) (by simp [Act.eval, Array.replicate]) ?_
  simp only [if_true]
  refine wpS_of_wp ?_
  go_wp2
  simp [bodyPostS, results, Tryz.results51]
theorem lcatch_idle (q : Addr) (w : World) :
    CallsD Tryz.prog 51 #[.pointer (some q)] .returning w fun e u' w' => e = .returned (.tuple #[]) ∧ u' = .returning ∧ w' = w := by
  refine callsD_of_wpS Tryz.func51 rfl fun c₀ cs hu => ?_
  apply wpS_seq
  apply wpS_region
  simp [wpOpsS, go_sem, recoverD, hu, Tryz.ntmps51, Exit.thenS]
  refine wpS_cond (t := false) (by simp [Act.eval, Array.replicate]) ?_
  simp only [Bool.false_eq_true, if_false]
  refine wpS_of_wp (wp_skip ?_)
  cases c₀
  simp_all [bodyPostS, results, Tryz.results51]
theorem results_cellE {fn : Func} {p : Tmp} {ty : TypeId} (h : fn.results = #[.cell p ty]) (tmps : Array Value) (P : Program) (w : World) (ad : Addr) (v : Value)
    (hp : tmps.getD p undef = .pointer (some ad)) (hl : (loadVar ty ad).run P w = .ok v w) : (results fn tmps).run P w = .ok v w := by
  have hp' : tmps[p]?.getD undef = .pointer (some ad) := by simpa using hp
  simp only [results, h]
  simp [hp', asAddr, hl]
theorem errE_load {w : World} {q : Nat} {e : Int} (h : w.cell? ⟨q, 0, none⟩ = some (.int .i64 e)) : (loadVar 51 ⟨q, 0, none⟩).run Tryz.prog w = .ok (.int .i64 e) w := by
  simp [go_sem, h]
/-- lay's error. -/
def layE (k : Int) (R : Option (Array Value × Wy)) (al : Bool) : Int := if isK k then (if R.isSome && al then 0 else 151) else 150
/-- What lay comes to. -/
def LayTo (w : World) (S : Wy) (A : Nat → Prop) (k : Int) (R : Option (Array Value × Wy)) (al : Bool) (r : Ending) (w' : World) : Prop :=
  r = .returned (.int .i64 (layE k R al)) ∧ Gr S.blk w w' ∧ (layE k R al = 0 → ∃ q' S', R = some (q', S') ∧ S'.ok w' A)
theorem two_new (w : World) (T1 T2 : TypeId) (c1 c2 : Array Value) : Bk T1 ((w.alloc (.cells c1 T1)).alloc (.cells c2 T2)) w.heap.size c1 ∧ Bk T2 ((w.alloc (.cells c1 T1)).alloc (.cells c2 T2)) (w.heap.size + 1) c2 ∧ w.grownBy ((w.alloc (.cells c1 T1)).alloc (.cells c2 T2)) none ∧ ((w.alloc (.cells c1 T1)).alloc (.cells c2 T2)).heap.size = w.heap.size + 2 := by
  have a := blk_new w T1 c1
  have b := blk_new (w.alloc (.cells c1 T1)) T2 c2
  have e : (w.alloc (.cells c1 T1)).heap.size = w.heap.size + 1 := World.size_alloc _ _
  rw [e] at b
  exact ⟨a.1.grew b.2 (by simp), b.1, gb_trans a.2 b.2, by rw [World.size_alloc, e]⟩
set_option maxRecDepth 20000 in
set_option maxHeartbeats 2000000 in
theorem elay_kind (M : Msg) (o : Option Addr) (w : World) (hk : isK M.kind = false) : Calls Tryz.prog 27 #[.agg M.cells, .pointer o] w fun r w' => r = .returned (.int .i64 150) ∧ w.grownBy w' none := by
  have HK : Hid (∀ W, _) := fun W => isKind_c M.kind W
  rw [hk] at HK
  obtain ⟨b1, b2, b3, b4⟩ := two_new w 49 51 M.cells #[.int .i64 0]
  have c0 : ((w.alloc (.cells M.cells 49)).alloc (.cells #[.int .i64 0] 51)).cell? ⟨w.heap.size, 0, none⟩ = some (.int .i64 M.kind) := b1.cell 0
  have cE : ((w.alloc (.cells M.cells 49)).alloc (.cells #[.int .i64 0] 51)).cell? ⟨w.heap.size + 1, 0, none⟩ = some (.int .i64 0) := b2.cell 0
  have fE : ((w.alloc (.cells M.cells 49)).alloc (.cells #[.int .i64 0] 51)).frozen? ⟨w.heap.size + 1, 0, none⟩ = false := frozen_of_row _ _ 0 _ _ b2
  have HX : Hid _ := two_new w 49 51 M.cells #[.int .i64 150]
  clear b1 b2 b3 b4 hk
  go_enter_defers Tryz.func27, Tryz.ntmps27
  go_wp2_with (go_at_call 25; go_must (refine (Calls.mono (HK.out _) ?_)); rintro r wq ⟨rfl, hq⟩; obtain rfl := hq.symm; clear hq)
  refine ⟨_, results_cellE Tryz.results27 _ _ _ ⟨w.heap.size + 1, 0, none⟩ (.int .i64 150) rfl (errE_load (HX.out.2.1.cell 0)), ?_⟩
  exact ⟨rfl, HX.out.2.2.1⟩
theorem wpList_build_E {ops : Array Oper} {rest : List Oper} {op : Oper} {a : Act} {w : World} {Q : Exit → Act → World → Prop} (hgd : op.guard = none) (T : TypeId) (parts : Array (Nat × Operand)) (ho : op.op = .build T parts)
    (v : Value) (hr : (Instr.build T (parts.map fun p => (p.1, a.eval p.2))).run Tryz.prog w = .ok v w)
    (K : wpList Tryz.prog ops Q rest (a.put op.dst v) w) : wpList Tryz.prog ops Q (op :: rest) a w := by
  refine wpList_plain hgd fun K' hK => ?_
  unfold Oper.wp execOp
  simp only [ho, Sem.run_bind, Sem.run_pure, Result.andThen_ok, hr]
  exact hK _ _ K
theorem pc_size (M : Msg) (o : Option Addr) : (M.cells ++ zMsg.cells ++ #[Value.pointer none, Value.pointer o]).size = 76 := by
  rw [Array.size_append, Array.size_append, Msg.size, Msg.size]; rfl
theorem pc_one (M : Msg) (o : Option Addr) : (M.cells ++ zMsg.cells ++ #[Value.pointer none, Value.pointer o]).all (·.oneCell') = true := by
  rw [Array.all_append, Array.all_append, Msg.one, Msg.one]; simp [Value.oneCell']
/-- Where the pass begins. -/
structure LaySt (w : World) (p : Nat) (M : Msg) (S : Wy) (A : Nat → Prop) (W1 : World) : Prop where
  st : St W1 p M.cells zMsg.cells S (fun j => A j ∨ w.heap.size ≤ j ∧ j ≤ p)
  b1 : Bk 49 W1 w.heap.size M.cells
  b2 : Bk 51 W1 (w.heap.size + 1) #[.int .i64 0]
  gb : w.grownBy W1 none
  kn : Knd W1
  mx : Max W1
  pw : p = w.heap.size + 2
theorem lay_st {w W0 W1 : World} {p : Nat} {M : Msg} {S : Wy} {A : Nat → Prop} {PC z : Array Value} (h : Bk 49 W0 w.heap.size M.cells ∧ Bk 51 W0 (w.heap.size + 1) #[.int .i64 0] ∧ w.grownBy W0 none ∧ p = w.heap.size + 2 ∧ p = W0.heap.size) (hP : PC = M.cells ++ zMsg.cells ++ #[.pointer none, .pointer S.out]) (hh : S.ok w A ∧ (∀ j, A j → j < w.heap.size) ∧ (∀ j, j < 3 → A j) ∧ 3 ≤ w.heap.size ∧ Knd w ∧ Max w ∧ S.inn = none)
    (k1 : Bk 117 W1 p PC) (k2 : (W0.alloc (.cells z 117)).grownBy W1 (some p)) : LaySt w p M S A W1 := by
  obtain ⟨b1, b2, b3, hp, hp0⟩ := h
  obtain ⟨hS, hA, hlo, h3, HK, HM, hin⟩ := hh
  have g1 : W0.grownBy W1 none := by
    have ga : W0.grownBy (W0.alloc (.cells z 117)) none := World.grownBy_alloc _ _ _
    exact ⟨k2.os.trans ga.os, k2.tape.trans ga.tape, k2.output.trans ga.output, Nat.le_trans ga.size k2.size, fun i hi hn => (k2.block i (Nat.lt_of_lt_of_le hi ga.size) (by simp; omega)).trans (ga.block i hi hn)⟩
  have g2 : w.grownBy W1 none := gb_trans b3 g1
  refine ⟨⟨?_, rfl, rfl, ?_, .inr ⟨by omega, Nat.le_refl _⟩, fun j hj => ?_, fun j hj => .inl (hlo j hj), by omega⟩, b1.grew g1 (by simp), b2.grew g1 (by simp), g2, HK.gb g2, HM.gb g2, hp⟩
  · rw [hP] at k1; rw [hin]; exact k1
  · rcases hS with y | ⟨y, y1, fs, y2, y3⟩
    · exact .inl y
    · refine .inr ⟨y, fun c => ?_, fs, y2.new g2, fun j hj c => ?_⟩
      · rcases c with c | c
        · exact y1 c
        · have := y2.lt; omega
      · rcases c with c | c
        · exact y3 j hj c
        · have := y2.chlt j hj; omega
  · rcases hj with hj | hj
    · exact Nat.lt_of_lt_of_le (hA j hj) g2.size
    · have := lt_of_block k1; omega
theorem blk_low {S : Wy} {w : World} {A : Nat → Prop} (h : S.ok w A) (j : Nat) (hj : S.blk j) : j < w.heap.size := by
  rcases h with y | ⟨_, _, fs, hw, _⟩
  · exact absurd y hj.1
  · rw [hj.2]; exact hw.lt
theorem Wy.ok.less {S : Wy} {w : World} {A A' : Nat → Prop} (h : S.ok w A) (ha : ∀ j, A' j → A j) : S.ok w A' := by
  rcases h with z | ⟨z, z1, fs, z2, z3⟩
  · exact .inl z
  · exact .inr ⟨z, fun c => z1 (ha _ c), fs, z2, fun j hj c => z3 j hj (ha j c)⟩
theorem lay_gr {S : Wy} {w W2 W3 : World} {v : Value} (h : Gr S.blk w W2) (h3 : W2.grownBy W3 none) : Gr S.blk w (W3.setCell ⟨w.heap.size + 1, 0, none⟩ v) :=
  have g : Gr S.blk w W3 := h.trans (Gr.of h3 (by simp))
  have k := grownBy_cell W3 (w.heap.size + 1) 0 v
  ⟨k.os.trans g.os, k.tape.trans g.tape, k.output.trans g.output, Nat.le_trans g.size k.size, fun i hi hn => (k.block i (Nat.lt_of_lt_of_le hi g.size) (fun z => by have := Option.some.inj z; omega)).trans (g.block i hi hn)⟩
/-- Behind the fields. -/
structure LayMid (w : World) (p : Nat) (M : Msg) (S : Wy) (A : Nat → Prop) (q' : Array Value) (S' : Wy) (W : World) : Prop where
  st : St W p M.cells q' S' (fun j => A j ∨ w.heap.size ≤ j ∧ j ≤ p)
  b1 : Bk 49 W w.heap.size M.cells
  b2 : Bk 51 W (w.heap.size + 1) #[.int .i64 0]
  gr : Gr S.blk w W
theorem lay_no {w W1 W2 : World} {p : Nat} {M : Msg} {S : Wy} {A : Nat → Prop} (h : LaySt w p M S A W1) (hs : S.ok w A) (hg : Gr (fun j => j = p ∨ S.blk j) W1 W2) : Gr S.blk w W2 ∧ Bk 51 W2 (w.heap.size + 1) #[.int .i64 0] := by
  have hp := h.pw
  refine ⟨⟨hg.os.trans h.gb.os, hg.tape.trans h.gb.tape, hg.output.trans h.gb.output, Nat.le_trans h.gb.size hg.size, fun i hi hn => (hg.block i (Nat.lt_of_lt_of_le hi h.gb.size) (fun z => ?_)).trans (h.gb.block i hi (by simp))⟩, h.b2.gr hg (fun z => ?_)⟩
  · rcases z with z | z
    · omega
    · exact hn z
  · rcases z with z | z
    · omega
    · have := blk_low hs _ z; omega
theorem lay_mid {w W1 W2 : World} {p : Nat} {M : Msg} {S S' : Wy} {A : Nat → Prop} {q' : Array Value} (h : LaySt w p M S A W1) (hs : S.ok w A) (h2 : St W2 p M.cells q' S' (fun j => A j ∨ w.heap.size ≤ j ∧ j ≤ p)) (hg : Gr (fun j => j = p ∨ S.blk j) W1 W2) : LayMid w p M S A q' S' W2 := by
  have hp := h.pw
  refine ⟨h2, h.b1.gr hg (fun z => ?_), (lay_no h hs hg).2, (lay_no h hs hg).1⟩
  rcases z with z | z
  · omega
  · have := blk_low hs _ z; omega
theorem range_q {W : World} {p : Nat} {m q : Array Value} {S : Wy} {A : Nat → Prop} (h : St W p m q S A) : W.rangeAt p 37 q.toList := fun j v hv => by
  rw [Array.getElem?_toList] at hv
  have hj : j < 37 := by
    rw [← h.q37]
    exact (Array.getElem?_eq_some_iff.1 hv).1
  exact (h.cellQ j hj).trans hv
set_option maxRecDepth 20000 in
set_option maxHeartbeats 1000000 in
theorem elay_c (M : Msg) (S : Wy) (A : Nat → Prop) (R : Option (Array Value × Wy)) (al : Bool) (w : World) (hk : isK M.kind = true) (hS : S.ok w A) (hA : ∀ j, A j → j < w.heap.size) (hlo : ∀ j, j < 3 → A j) (h3 : 3 ≤ w.heap.size) (HK : Knd w) (HM : Max w) (hin : S.inn = none)
    (HC : ∀ W p A', St W p M.cells zMsg.cells S A' → Knd W → Max W → Calls Tryz.prog 52 #[.pointer (some ⟨p, 0, none⟩), .int .i64 M.kind] W (StepTo W p M.cells zMsg.cells S A' R))
    (HAl : ∀ q' S' W, R = some (q', S') → Calls Tryz.prog 24 #[.agg q', .agg M.cells] W fun r w' => r = .returned (.bool al) ∧ W.grownBy w' none) :
    Calls Tryz.prog 27 #[.agg M.cells, .pointer S.out] w (LayTo w S A M.kind R al) := by
  have HKi : Hid (∀ W, _) := fun W => isKind_c M.kind W
  rw [hk] at HKi
  obtain ⟨b1, b2, b3, b4⟩ := two_new w 49 51 M.cells #[.int .i64 0]
  have c0 : ((w.alloc (.cells M.cells 49)).alloc (.cells #[.int .i64 0] 51)).cell? ⟨w.heap.size, 0, none⟩ = some (.int .i64 M.kind) := b1.cell 0
  obtain ⟨W0, hW0⟩ : ∃ W0, W0 = (w.alloc (.cells M.cells 49)).alloc (.cells #[.int .i64 0] 51) := ⟨_, rfl⟩
  rw [← hW0] at b1 b2 b3 b4
  obtain ⟨p, hp⟩ : ∃ p, p = W0.heap.size := ⟨_, rfl⟩
  have B1 : Hid (Bk 49 W0 w.heap.size M.cells ∧ Bk 51 W0 (w.heap.size + 1) #[.int .i64 0] ∧ w.grownBy W0 none ∧ p = w.heap.size + 2 ∧ p = W0.heap.size) := ⟨b1, b2, b3, hp.trans b4, hp⟩
  obtain ⟨PC, hPC⟩ : ∃ PC, PC = M.cells ++ zMsg.cells ++ #[.pointer none, .pointer S.out] := ⟨_, rfl⟩
  have HPC : Hid (PC = M.cells ++ zMsg.cells ++ #[.pointer none, .pointer S.out] ∧ PC.size = 76 ∧ PC.all (·.oneCell') = true) := ⟨hPC, by rw [hPC]; exact pc_size M S.out, by rw [hPC]; exact pc_one M S.out⟩
  have HH : Hid (S.ok w A ∧ (∀ j, A j → j < w.heap.size) ∧ (∀ j, j < 3 → A j) ∧ 3 ≤ w.heap.size ∧ Knd w ∧ Max w ∧ S.inn = none) := ⟨hS, hA, hlo, h3, HK, HM, hin⟩
  have HCh : Hid _ := HC
  have HAh : Hid _ := HAl
  replace hW0 : Hid _ := hW0
  have hp' : W0.heap.size = p := hp.symm
  have HKT : Hid (isK M.kind = true) := hk
  clear b1 b2 b3 b4 hp hPC hS hA hlo h3 HK HM hin HC HAl hk
  go_enter_defers Tryz.func27, Tryz.ntmps27
  go_wp2_with (first
    | (go_at_call 25; go_must (refine (Calls.mono (HKi.out _) ?_)); rintro r wq ⟨rfl, hq⟩; obtain rfl := hq.symm; rw [← hW0.out]; clear hq)
    | ((fail_if_success (have z := H1)); refine wpList_load_bk 49 rfl (.tmp 2) rfl Tryz.underlying49 rfl infoMsg w.heap.size M.cells rfl B1.out.1 rfl ?_)
    | (refine wpList_build_E rfl 117 _ rfl (.agg PC) (by simp only [List.map_toArray, List.map_cons, List.map_nil]; rw [HPC.out.1]; exact build_pass M S.out _) ?_)
    | (refine wpList_store_bk 117 rfl (.tmp 5) (.tmp 13) rfl infoPass p Tryz.zeroCells117 PC rfl rfl (by rw [← hp']; exact heap_new W0 _) (by kernel_rfl) HPC.out.2.1 HPC.out.2.2 ?_; intro W1 k1 k2; have H1 : Hid (LaySt w p M S A W1) := lay_st B1.out HPC.out.1 HH.out k1 k2; have c1 : W1.cell? ⟨w.heap.size, 0, none⟩ = some (.int .i64 M.kind) := H1.out.b1.cell 0; clear k1 k2 c0))
  refine Calls.mono (HCh.out W1 p _ H1.out.st H1.out.kn H1.out.mx) ?_
  rintro r W2 ⟨⟨q', S', e1, rfl, h2⟩ | ⟨e1, rfl⟩, hg⟩
  · have H2 : Hid (LayMid w p M S A q' S' W2) := lay_mid H1.out HH.out.1 h2 hg
    have HR : Hid (R = some (q', S')) := e1
    have h37 : q'.toList.toArray = q' := rfl
    clear h2 hg e1 H1 c1
    have HAl2 : Hid _ := HAh.out q' S' W2 HR.out
    cases al with
    | true =>
      go_wp2_with (first
        | ((fail_if_success (have z := K1)); refine wpList_load_mid rfl 49 (.tmp 17) rfl p 37 rfl q'.toList _ (range_q H2.out.st) Tryz.underlying49 rfl (by rw [infoMsg, Array.length_toList, H2.out.st.q37]) ?_; have K1 : Hid True := trivial)
        | (refine wpList_load_bk 49 rfl (.tmp 2) rfl Tryz.underlying49 rfl infoMsg w.heap.size M.cells rfl H2.out.b1 rfl ?_))
      refine Calls.mono HAl2.out ?_
      rintro r W3 ⟨rfl, h3⟩
      have cE : W3.cell? ⟨w.heap.size + 1, 0, none⟩ = some (.int .i64 0) := (H2.out.b2.grew h3 (by simp)).cell 0
      have fE : W3.frozen? ⟨w.heap.size + 1, 0, none⟩ = false := frozen_of_row _ _ 0 _ _ (H2.out.b2.grew h3 (by simp))
      have H3 : Hid (W2.grownBy W3 none) := h3
      have HMo : Hid _ := emust_so W3
      clear h3 HAl2
      go_wp2_with (go_at_call 42; go_must (refine (Calls.mono HMo.out ?_)); rintro r wq ⟨rfl, hq⟩; obtain rfl := hq.symm; clear hq)
      refine leaves_cons (f := 51) (args := #[.pointer (some ⟨w.heap.size + 1, 0, none⟩)]) (by simp) (by simp [go_sem]) ?_
      refine (lcatch_idle ⟨w.heap.size + 1, 0, none⟩ _).mono ?_
      rintro e u' w'' ⟨rfl, rfl, rfl⟩
      have b3 := bk_setA (H2.out.b2.grew H3.out (by simp)) 0 (.int .i64 0)
      refine ⟨_, results_cellE Tryz.results27 _ _ _ ⟨w.heap.size + 1, 0, none⟩ (.int .i64 0) rfl (errE_load (b3.cell 0)), ?_⟩
      refine ⟨by rw [layE, if_pos HKT.out, HR.out]; rfl, lay_gr H2.out.gr H3.out, fun _ => ⟨q', S', HR.out, ?_⟩⟩
      have hok : S'.ok W3 (fun j => A j ∨ w.heap.size ≤ j ∧ j ≤ p) := Wy.ok_gr H2.out.st.ok (G := fun _ => False) (Gr.of H3.out (by simp)) (by simp)
      have hok2 : S'.ok (W3.setCell ⟨w.heap.size + 1, 0, none⟩ (.int .i64 0)) (fun j => A j ∨ w.heap.size ≤ j ∧ j ≤ p) := Wy.ok_gr hok (G := fun k => k = w.heap.size + 1) (Gr.of (grownBy_cell W3 (w.heap.size + 1) 0 _) (fun k hk => by cases hk; exact .inl rfl)) (fun j _ e => .inr ⟨by omega, by have := B1.out.2.2.2.1; omega⟩)
      exact hok2.less (fun j hj => .inl hj)
    | false =>
      go_wp2_with (first
        | ((fail_if_success (have z := K1)); refine wpList_load_mid rfl 49 (.tmp 17) rfl p 37 rfl q'.toList _ (range_q H2.out.st) Tryz.underlying49 rfl (by rw [infoMsg, Array.length_toList, H2.out.st.q37]) ?_; have K1 : Hid True := trivial)
        | (refine wpList_load_bk 49 rfl (.tmp 2) rfl Tryz.underlying49 rfl infoMsg w.heap.size M.cells rfl H2.out.b1 rfl ?_))
      refine Calls.mono HAl2.out ?_
      rintro r W3 ⟨rfl, h3⟩
      have H3 : Hid (W2.grownBy W3 none) := h3
      have HMo : Hid _ := emust_no W3
      clear h3 HAl2
      go_wp2_with (go_at_call 42; go_must (refine (Calls.mono HMo.out ?_)); rintro r wq ⟨rfl, hq⟩; obtain rfl := hq.symm; clear hq)
      refine leaves_cons (f := 51) (args := #[.pointer (some ⟨w.heap.size + 1, 0, none⟩)]) (by simp) (by simp [go_sem]) ?_
      have b2 := H2.out.b2.grew H3.out (by simp)
      refine (lcatch_panicking (w.heap.size + 1) 0 _ _ [] _ b2).mono ?_
      rintro e u' w'' ⟨rfl, rfl, rfl⟩
      simp only [settle]
      have b3 := bk_setA b2 0 (.int .i64 151)
      refine ⟨_, results_cellE Tryz.results27 _ _ _ ⟨w.heap.size + 1, 0, none⟩ (.int .i64 151) rfl (errE_load (b3.cell 0)), ?_⟩
      have hE : layE M.kind R false = 151 := by rw [layE, if_pos HKT.out, Bool.and_false, if_neg (by decide)]
      exact ⟨by rw [hE], lay_gr H2.out.gr H3.out, fun z => by rw [hE] at z; cases z⟩
  · have H2 : Hid (Gr S.blk w W2 ∧ Bk 51 W2 (w.heap.size + 1) #[.int .i64 0]) := lay_no H1.out HH.out.1 hg
    refine leaves_cons (f := 51) (args := #[.pointer (some ⟨w.heap.size + 1, 0, none⟩)]) (by simp) (by simp [go_sem]) ?_
    refine (lcatch_panicking (w.heap.size + 1) 0 _ _ [] _ H2.out.2).mono ?_
    rintro e u' w'' ⟨rfl, rfl, rfl⟩
    simp only [settle]
    have b3 := bk_setA H2.out.2 0 (.int .i64 151)
    refine ⟨_, results_cellE Tryz.results27 _ _ _ ⟨w.heap.size + 1, 0, none⟩ (.int .i64 151) rfl (errE_load (b3.cell 0)), ?_⟩
    have hE : layE M.kind R al = 151 := by rw [layE, if_pos HKT.out, e1]; rfl
    exact ⟨by rw [hE], lay_gr H2.out.1 ⟨rfl, rfl, rfl, Nat.le_refl _, fun _ _ _ => rfl⟩, fun z => by rw [hE] at z; cases z⟩
end Go.Proofs.YtokkhhekmebakaaGreatDoor
