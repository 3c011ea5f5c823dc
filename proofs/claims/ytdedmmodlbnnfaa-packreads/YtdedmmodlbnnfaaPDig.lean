/-
  What a pack Reader's Digest answers: what the plain function rg gives. Condition: the Reader's bytes can be read, and their length is one that a machine has.
-/
import Derived.Test.YtdedmmodlbnnfaaPTx
import Derived.Test.YtdedmmodlbnnfaaGbN
import Derived.Deep.WholeRow
import Derived.Deep.MidRow
import Derived.Laws.CopyOwn
namespace Go.Proofs.Ytdedmmodlbnnfaa
open Go.RowKit
set_option linter.unusedVariables false

/-- Bytes as cells. -/
def u8s (xs : List Int) : Array Value := (xs.map (Value.int .u8)).toArray
theorem u8s_size (xs : List Int) : (u8s xs).size = xs.length := by simp [u8s]
theorem u8s_one (xs : List Int) : (u8s xs).all (·.oneCell') = true := by
  rw [Array.all_eq_true_iff_forall_mem]
  intro v hv
  simp only [u8s, List.mem_toArray, List.mem_map] at hv
  obtain ⟨z, _, rfl⟩ := hv
  rfl
/-- What Digest takes up. -/
def rg (xs : List Int) (p : Nat) : List Int × Nat × Int := if xs.length - p < 32 then (List.replicate 32 0, p, 30) else ((xs.drop p).take 32, p + 32, 0)

theorem results_cell1 {fn : Func} {p : Tmp} {ty : TypeId} (h : fn.results = #[.cell p ty]) (tmps : Array Value) (P : Program) (w : World) (ad : Addr) (v : Value)
    (hp : tmps.getD p undef = .pointer (some ad)) (hl : (loadVar ty ad).run P w = .ok v w) : (results fn tmps).run P w = .ok v w := by
  have hp' : tmps[p]?.getD undef = .pointer (some ad) := by simpa using hp
  simp only [results, h]
  simp [hp', asAddr, hl]

theorem infoD : (Try.prog.info? 69).map (·.size) = some 32 := by kernel_rfl
theorem zeroD (w : World) : (zeroValue 69).run Try.prog w = .ok (.agg (u8s (List.replicate 32 0))) w := by
  have h : (Try.prog.info? 69).map (fun i => (i.zero, i.size)) = some (some (.agg (u8s (List.replicate 32 0))), 32) := by kernel_rfl
  exact (zero_of_info h).1 w

/-- A digest in a block of its own. -/
def Dg (T : TypeId) (w : World) (b : Nat) (ds : List Int) : Prop := w.heap[b]? = some (.cells (u8s ds) T (0, 0))
theorem Dg.grew {T w w' b ds row} (h : Dg T w b ds) (hg : w.grownBy w' row) (hn : row ≠ some b) : Dg T w' b ds := (hg.block b (lt_of_block h) (fun e => hn e.symm)).trans h
theorem dg_load {T e : TypeId} {n : Nat} (hu : Try.prog.underlying T = some (.array n e)) (hi : (Try.prog.info? T).map (·.size) = some 32) {w : World} {b : Nat} {ds : List Int} (h : Dg T w b ds) (hl : ds.length = 32) :
    (loadVar T ⟨b, 0, none⟩).run Try.prog w = .ok (.agg (u8s ds)) w ∧ (Instr.loadAt T (.pointer (some ⟨b, 0, none⟩))).run Try.prog w = .ok (.agg (u8s ds)) w := by
  have h1 := run_loadVar_row (P := Try.prog) w b T T (u8s ds) (0, 0) _ h hu rfl (by rw [hi, u8s_size, hl])
  exact ⟨h1, by simp only [Instr.loadAt, Instr.sureAddr, Sem.run_bind, Sem.run_pure, Result.andThen_ok, h1]⟩
theorem dg_store {T : TypeId} (hi : (Try.prog.info? T).map (·.size) = some 32) {w : World} {b : Nat} {ds es : List Int} (h : Dg T w b ds) (hl : ds.length = 32) (hl2 : es.length = 32) :
    ∃ w', (storeVar T ⟨b, 0, none⟩ (.agg (u8s es))).run Try.prog w = .ok () w' ∧ Dg T w' b es ∧ w.grownBy w' (some b) := by
  have h1 := run_storeVar_row (P := Try.prog) w b T T (u8s ds) (u8s es) h (by rw [hi, u8s_size, hl2]) (by rw [u8s_size, u8s_size, hl, hl2]) (u8s_one es)
  refine ⟨w.setRow b (u8s es), h1, ?_, ?_⟩
  · unfold Dg World.setRow
    simp only [Array.getElem?_modify]
    rw [if_pos trivial, h]; rfl
  · exact ⟨rfl, rfl, rfl, by simp [World.setRow], fun k _ hk => setRow_other w b k _ (fun e => hk (by rw [e]))⟩
theorem wpList_load_dg {ops : Array Oper} {rest : List Oper} {op : Oper} {a : Act} {w : World} {Q : Exit → Act → World → Prop} (T : TypeId) (hgd : op.guard = none) (x : Operand) (ho : op.op = .load T x)
    {e : TypeId} {n : Nat} (hu : Try.prog.underlying T = some (.array n e)) (hi : (Try.prog.info? T).map (·.size) = some 32) (b : Nat) (ds : List Int) (hx : a.eval x = .pointer (some ⟨b, 0, none⟩)) (h : Dg T w b ds) (hl : ds.length = 32)
    (K : wpList Try.prog ops Q rest (a.put op.dst (.agg (u8s ds))) w) : wpList Try.prog ops Q (op :: rest) a w :=
  wpList_load_mid hgd T x ho b 0 hx (ds.map (Value.int .u8)) _ (fun j v hv => by
    rw [Nat.zero_add, cell_of_row w b j _ _ _ h]
    simpa [u8s] using hv) hu rfl (by rw [hi, List.length_map, hl]) K
theorem wpList_store_dg {ops : Array Oper} {rest : List Oper} {op : Oper} {a : Act} {w : World} {Q : Exit → Act → World → Prop} (T : TypeId) (hgd : op.guard = none) (x y : Operand) (ho : op.op = .store T x y)
    (hi : (Try.prog.info? T).map (·.size) = some 32) (b : Nat) (ds es : List Int) (hx : a.eval x = .pointer (some ⟨b, 0, none⟩)) (hy : a.eval y = .agg (u8s es)) (h : Dg T w b ds) (hl : ds.length = 32) (hl2 : es.length = 32)
    (K : ∀ w', Dg T w' b es → w.grownBy w' (some b) → wpList Try.prog ops Q rest (a.put op.dst undef) w') : wpList Try.prog ops Q (op :: rest) a w := by
  obtain ⟨w', h1, h2, h3⟩ := dg_store hi h hl hl2
  refine wpList_plain hgd fun K' hK => ?_
  unfold Oper.wp execOp
  simp only [ho, hx, hy, Instr.storeAt, Instr.sureAddr, Sem.run_bind, Sem.run_pure, Result.andThen_ok, h1]
  exact hK _ _ (K w' h2 h3)
theorem two_new (w : World) (T : TypeId) (ds es : List Int) : Dg T ((w.alloc (.cells (u8s ds) T)).alloc (.cells (u8s es) T)) w.heap.size ds ∧ Dg T ((w.alloc (.cells (u8s ds) T)).alloc (.cells (u8s es) T)) (w.heap.size + 1) es ∧ w.grownBy ((w.alloc (.cells (u8s ds) T)).alloc (.cells (u8s es) T)) none := by
  refine ⟨?_, ?_, gb_trans (World.grownBy_alloc _ _ _) (World.grownBy_alloc _ _ _)⟩
  · exact (Below.heap_alloc _ _ _ (by simp)).trans (heap_new w _)
  · have := heap_new (w.alloc (.cells (u8s ds) T)) (.cells (u8s es) T)
    rw [World.size_alloc] at this
    exact this

set_option maxRecDepth 20000 in
theorem digest_no (g : Nat) (a : Option Addr) (len cap : Nat) (xs : List Int) (e : Int) (p : Nat) (w : World) (h : RS w g a len cap xs e p) (he : (e == 0) = false) :
    Calls Try.prog 42 #[.pointer (some ⟨g, 0, none⟩)] w fun r w' => r = .returned (.agg (u8s (List.replicate 32 0))) ∧ RS w' g a len cap xs e p ∧ w.grownBy w' (some g) := by
  have HR : Hid (RS w g a len cap xs e p) := h
  have HT := two_new w 69 (List.replicate 32 0) (List.replicate 32 0)
  have hgl : g < w.heap.size := lt_of_block h.rdr
  obtain ⟨N, hN⟩ : ∃ N, N = w.heap.size := ⟨_, rfl⟩
  obtain ⟨Z, hZ⟩ : ∃ Z : List Int, Z = List.replicate 32 0 := ⟨_, rfl⟩
  rw [← hZ]
  have HZ : Hid (Z = List.replicate 32 0) := hZ
  have HZL : Hid (Z.length = 32) := by rw [hZ, List.length_replicate]; exact rfl
  have HGL : Hid (g < N ∧ N = w.heap.size) := ⟨by rw [hN]; exact hgl, hN⟩
  clear h hgl hZ
  go_enter Try.func42, Try.ntmps42
  go_wp2_with fail
  generalize hW1 : World.alloc (World.alloc w _) _ = W1
  rw [← hN]
  have H1 : Hid (Dg 69 W1 N Z ∧ Dg 69 W1 (N + 1) Z ∧ w.grownBy W1 none) := by rw [← hW1, hN, HZ.out]; exact HT
  have HR1 : Hid (RS W1 g a len cap xs e p) := HR.out.new H1.out.2.2
  clear hW1 HT hN
  refine (ready_c g e _ _ W1 HR1.out.rdr).mono ?_
  rintro r w1 ⟨rfl, rfl⟩
  go_wp2_with (first
    | (refine wpList_load_dg 69 rfl (.tmp 3) rfl Try.underlying69 infoD (N + 1) Z rfl H1.out.2.1 HZL.out ?_)
    | (refine wpList_store_dg 69 rfl (.tmp 2) (.tmp 10) rfl infoD N Z Z rfl rfl H1.out.1 HZL.out HZL.out ?_; intro w2 h1 h2; have H2 : Hid (Dg 69 w2 N Z ∧ w1.grownBy w2 (some N)) := ⟨h1, h2⟩; clear h1 h2))
  refine bodyPost_ret (results_cell1 Try.results42 _ _ _ ⟨N, 0, none⟩ (.agg (u8s Z)) rfl (dg_load Try.underlying69 infoD H2.out.1 HZL.out).1) rfl ?_
  have hg2 := gb_newer H1.out.2.2 H2.out.2 (Nat.le_of_eq HGL.out.2.symm)
  exact ⟨rfl, HR.out.new hg2, gb_wide hg2 _⟩

theorem RS.keep {w w2 w4 g a len cap xs e0 p0 e p} (h0 : RS w g a len cap xs e0 p0) (h : RS w2 g a len cap xs e p) (hb : ∀ k, k < w.heap.size → w4.heap[k]? = w2.heap[k]?) (hs : w.heap.size ≤ w4.heap.size) : RS w4 g a len cap xs e p := by
  refine ⟨(hb g (lt_of_block h0.rdr)).trans h.rdr, ⟨h.seg.1, ?_⟩, h.bytes, h.off, h.le, h.lc, h.lm, h.cm, h.nz⟩
  rcases h0.seg.2 with h1 | ⟨b, off, ha, hw, _⟩
  · exact .inl h1
  · rcases h.seg.2 with h1 | ⟨b', off', ha', _, hc⟩
    · exact .inl h1
    · rw [ha] at ha'; cases ha'
      exact .inr ⟨b, off, ha, Nat.lt_of_lt_of_le hw hs, fun i hi => (World.cell?_of_block (w := w2) (w' := w4) (a := ⟨b, off + i, none⟩) (hb b hw)).trans (hc i hi)⟩
theorem sz8 : (Try.prog.info? 5).map (·.size) = some 1 := by kernel_rfl
theorem dg_row {T w b ds} (h : Dg T w b ds) : w.heap[b]? = some (.cells (ds.map (Value.int .u8)).toArray T (0, 0)) := h
theorem u8_one {cs : List Value} {ds : List Int} (h : cs = ds.map (Value.int .u8)) : ∀ v ∈ cs, v.oneCell' = true := by
  intro v hv; rw [h] at hv; obtain ⟨z, _, rfl⟩ := List.mem_map.1 hv; rfl

set_option maxRecDepth 20000 in
set_option maxHeartbeats 1000000 in
theorem digest_ok (g : Nat) (a : Option Addr) (len cap : Nat) (xs : List Int) (p : Nat) (w : World) (h : RS w g a len cap xs 0 p) :
    Calls Try.prog 42 #[.pointer (some ⟨g, 0, none⟩)] w fun r w' => r = .returned (.agg (u8s (rg xs p).1)) ∧ RS w' g a len cap xs (rg xs p).2.2 (rg xs p).2.1 ∧ w.grownBy w' (some g) := by
  have HR : Hid (RS w g a len cap xs 0 p) := h
  have HT := two_new w 69 (List.replicate 32 0) (List.replicate 32 0)
  have hgl : g < w.heap.size := lt_of_block h.rdr
  obtain ⟨N, hN⟩ : ∃ N, N = w.heap.size := ⟨_, rfl⟩
  obtain ⟨Z, hZ⟩ : ∃ Z : List Int, Z = List.replicate 32 0 := ⟨_, rfl⟩
  have HZ : Hid (Z = List.replicate 32 0) := hZ
  have HZL : Hid (Z.length = 32) := by rw [hZ, List.length_replicate]; exact rfl
  have HGL : Hid (g < N ∧ N = w.heap.size) := ⟨by rw [hN]; exact hgl, hN⟩
  have HGG : Hid (rg xs p = if len - p < 32 then (Z, p, 30) else ((xs.drop p).take 32, p + 32, 0)) := by show _ = _; rw [rg, h.seg.1, hZ]
  obtain ⟨R, hR⟩ : ∃ R, R = rg xs p := ⟨_, rfl⟩
  rw [← hR] at HGG ⊢
  have HLL : Hid (xs.length = len) := h.seg.1
  clear h hgl hZ hR
  obtain ⟨ZC, hZC⟩ : ∃ ZC, ZC = Z.map (Value.int .u8) := ⟨_, rfl⟩
  have HZC : Hid (ZC = Z.map (Value.int .u8)) := hZC
  clear hZC
  by_cases hs : len - p < 32
  · rw [if_pos hs] at HGG
    have HS : Hid (((len - p : Nat) : Int) < 32) := by show _ < _; omega
    clear hs
    go_enter Try.func42, Try.ntmps42
    go_wp2_with fail
    generalize hW1 : World.alloc (World.alloc w _) _ = W1
    rw [← hN]
    have H1 : Hid (Dg 69 W1 N Z ∧ Dg 69 W1 (N + 1) Z ∧ w.grownBy W1 none) := by rw [← hW1, hN, HZ.out]; exact HT
    have HR1 : Hid (RS W1 g a len cap xs 0 p) := HR.out.new H1.out.2.2
    clear hW1 HT hN
    refine (ready_c g 0 _ _ W1 HR1.out.rdr).mono ?_
    rintro r w1 ⟨rfl, rfl⟩
    have HR2 : Hid (RS w1.drew g a len cap xs 0 p) := HR1.out.drewN 1
    go_wp2
    go_region_held3 (fun _ => True) (trivial) (first
      | (go_at_call 69; go_must (refine (take_short g a len cap xs p 32 _ HR2.out HS.out).mono ?_); rintro r w2 ⟨rfl, h1, h2⟩; have H2 : Hid (RS w2 g a len cap xs 30 p ∧ w1.grownBy w2 (some g)) := ⟨h1, gb_trans (gb_drewN (World.grownBy.refl _ _) 1) h2⟩; clear h1 h2; have HD2 : Hid (Dg 69 w2 N Z ∧ Dg 69 w2 (N + 1) Z) := ⟨H1.out.1.grew H2.out.2 (fun e => by cases e; have := HGL.out.1; omega), H1.out.2.1.grew H2.out.2 (fun e => by cases e; have := HGL.out.1; omega)⟩)
      | (refine step_copy_splice rfl (.tmp 6) (.tmp 8) 31 31 rfl 5 Try.underlying31 sz8 _ _ _ _ _ _ rfl rfl (N + 1) 0 (Z.map (Value.int .u8)) 69 (dg_row HD2.out.2) [] rfl (fun h => by simp at h) (by simp) (fun v h => by simp at h) (N + 1) w2 (Below.refl _ _) (Nat.le_refl _) ?_; intro w3 hg3 hb3; have HB3 : Hid (Below (N + 1) w2 w3) := hb3; have HD3 : Hid (Dg 69 w3 (N + 1) Z ∧ Dg 69 w3 N Z) := ⟨hg3.out, (hb3.block N (by omega)).trans HD2.out.1⟩; clear hg3 hb3))
    go_wp2_with (first
      | (refine wpList_load_dg 69 rfl (.tmp 3) rfl Try.underlying69 infoD (N + 1) Z rfl HD3.out.1 HZL.out ?_)
      | (refine wpList_store_dg 69 rfl (.tmp 2) (.tmp 10) rfl infoD N Z Z rfl rfl HD3.out.2 HZL.out HZL.out ?_; intro w4 h1 h2; have H4 : Hid (Dg 69 w4 N Z ∧ w3.grownBy w4 (some N)) := ⟨h1, h2⟩; clear h1 h2))
    refine bodyPost_ret (results_cell1 Try.results42 _ _ _ ⟨N, 0, none⟩ (.agg (u8s Z)) rfl (dg_load Try.underlying69 infoD H4.out.1 HZL.out).1) rfl ?_
    rw [HGG.out]
    have hsz : w.heap.size ≤ w2.heap.size := Nat.le_trans H1.out.2.2.size H2.out.2.size
    have hk : ∀ k, k < w.heap.size → w4.heap[k]? = w2.heap[k]? := fun k hk => by
      have h3 := HB3.out.size
      have hN2 := HGL.out.2
      rw [H4.out.2.block k (by omega) (fun e => by cases e; omega), HB3.out.block k (by omega)]
    refine ⟨rfl, HR.out.keep H2.out.1 hk (Nat.le_trans hsz (Nat.le_trans HB3.out.size H4.out.2.size)), ?_⟩
    have hA : w.grownBy w2 (some g) := gb_trans (gb_wide H1.out.2.2 _) H2.out.2
    exact ⟨H4.out.2.os.trans (HB3.out.os.trans hA.os), H4.out.2.tape.trans (HB3.out.tape.trans hA.tape), H4.out.2.output.trans (HB3.out.output.trans hA.output), Nat.le_trans hsz (Nat.le_trans HB3.out.size H4.out.2.size), fun k hkl hne => (hk k hkl).trans (hA.block k hkl hne)⟩
  · rw [if_neg hs] at HGG
    have HS : Hid (32 ≤ len - p) := by show _ ≤ _; omega
    obtain ⟨D, hD⟩ : ∃ D, D = (xs.drop p).take 32 := ⟨_, rfl⟩
    rw [← hD] at HGG
    have HDD : Hid (D = (xs.drop p).take 32) := hD
    have HDL : Hid (D.length = 32) := by
      show _ = _
      rw [hD, List.length_take, List.length_drop, HLL.out]; omega
    obtain ⟨DC, hDC⟩ : ∃ DC, DC = D.map (Value.int .u8) := ⟨_, rfl⟩
    have HDC : Hid (DC = D.map (Value.int .u8)) := hDC
    have HDN : Hid (DC.length = 32) := by show _ = _; rw [hDC, List.length_map]; exact HDL.out
    have HSP : Hid (splice (Z.map (Value.int .u8)) 0 DC = D.map (Value.int .u8)) := by
      show _ = _
      have h1 := HZL.out
      rw [splice, List.take_zero, List.nil_append, hDC, List.drop_eq_nil_of_le (by rw [List.length_map, List.length_map, HDL.out, h1]; omega), List.append_nil]
    clear hs hD hDC
    go_enter Try.func42, Try.ntmps42
    go_wp2_with fail
    generalize hW1 : World.alloc (World.alloc w _) _ = W1
    rw [← hN]
    have H1 : Hid (Dg 69 W1 N Z ∧ Dg 69 W1 (N + 1) Z ∧ w.grownBy W1 none) := by rw [← hW1, hN, HZ.out]; exact HT
    have HR1 : Hid (RS W1 g a len cap xs 0 p) := HR.out.new H1.out.2.2
    clear hW1 HT hN
    refine (ready_c g 0 _ _ W1 HR1.out.rdr).mono ?_
    rintro r w1 ⟨rfl, rfl⟩
    have HR2 : Hid (RS w1.drew g a len cap xs 0 p) := HR1.out.drewN 1
    go_wp2
    go_region_held3 (fun _ => True) (trivial) (first
      | (go_at_call 69; go_must (refine (take_ok g a len cap xs p 32 _ HR2.out HS.out).mono ?_); rintro r w2 ⟨a1, c1, rfl, hsg, _, h1, h2⟩; have H2 : Hid (RS w2 g a len cap xs 0 (p + 32) ∧ w1.grownBy w2 (some g)) := ⟨h1, gb_trans (gb_drewN (World.grownBy.refl _ _) 1) h2⟩; have HSG : Hid (Seg .u8 w2 a1 32 D) := (by rw [HDD.out]; exact hsg); clear h1 h2 hsg; have HD2 : Hid (Dg 69 w2 N Z ∧ Dg 69 w2 (N + 1) Z) := ⟨H1.out.1.grew H2.out.2 (fun e => by cases e; have := HGL.out.1; omega), H1.out.2.1.grew H2.out.2 (fun e => by cases e; have := HGL.out.1; omega)⟩; have HPS : Hid (0 < DC.length → (some ⟨N + 1, 0, none⟩ : Option Addr) = some ⟨N + 1, 0, none⟩ ∧ ∃ ad, a1 = some ad ∧ ∀ j v, DC[j]? = some v → w2.cell? (ad.add j) = some v) := fun _ => ⟨rfl, (by rcases HSG.out.2 with h0 | ⟨b, o, ha, _, _⟩; (· cases h0); (· exact ⟨_, ha, fun j v hj => seg_news' HSG.out _ ha j v (by rw [← HDC.out]; exact hj)⟩))⟩)
      | (refine step_copy_splice rfl (.tmp 6) (.tmp 8) 31 31 rfl 5 Try.underlying31 sz8 _ _ _ _ _ _ rfl rfl (N + 1) 0 (Z.map (Value.int .u8)) 69 (dg_row HD2.out.2) DC HDN.out (fun h => ⟨rfl, (HPS.out h).2⟩) (by rw [HDN.out, List.length_map, HZL.out]; omega) (u8_one HDC.out) (N + 1) w2 (Below.refl _ _) (Nat.le_refl _) ?_; intro w3 hg3 hb3; have HB3 : Hid (Below (N + 1) w2 w3) := hb3; have HD3 : Hid (Dg 69 w3 (N + 1) D ∧ Dg 69 w3 N Z) := ⟨(by have := hg3.out; rw [HSP.out] at this; exact this), (hb3.block N (by omega)).trans HD2.out.1⟩; clear hg3 hb3))
    go_wp2_with (first
      | (refine wpList_load_dg 69 rfl (.tmp 3) rfl Try.underlying69 infoD (N + 1) D rfl HD3.out.1 HDL.out ?_)
      | (refine wpList_store_dg 69 rfl (.tmp 2) (.tmp 10) rfl infoD N Z D rfl rfl HD3.out.2 HZL.out HDL.out ?_; intro w4 h1 h2; have H4 : Hid (Dg 69 w4 N D ∧ w3.grownBy w4 (some N)) := ⟨h1, h2⟩; clear h1 h2))
    refine bodyPost_ret (results_cell1 Try.results42 _ _ _ ⟨N, 0, none⟩ (.agg (u8s D)) rfl (dg_load Try.underlying69 infoD H4.out.1 HDL.out).1) rfl ?_
    rw [HGG.out]
    have hsz : w.heap.size ≤ w2.heap.size := Nat.le_trans H1.out.2.2.size H2.out.2.size
    have hk : ∀ k, k < w.heap.size → w4.heap[k]? = w2.heap[k]? := fun k hk => by
      have h3 := HB3.out.size
      have hN2 := HGL.out.2
      rw [H4.out.2.block k (by omega) (fun e => by cases e; omega), HB3.out.block k (by omega)]
    refine ⟨rfl, HR.out.keep H2.out.1 hk (Nat.le_trans hsz (Nat.le_trans HB3.out.size H4.out.2.size)), ?_⟩
    have hA : w.grownBy w2 (some g) := gb_trans (gb_wide H1.out.2.2 _) H2.out.2
    exact ⟨H4.out.2.os.trans (HB3.out.os.trans hA.os), H4.out.2.tape.trans (HB3.out.tape.trans hA.tape), H4.out.2.output.trans (HB3.out.output.trans hA.output), Nat.le_trans hsz (Nat.le_trans HB3.out.size H4.out.2.size), fun k hkl hne => (hk k hkl).trans (hA.block k hkl hne)⟩
end Go.Proofs.Ytdedmmodlbnnfaa
