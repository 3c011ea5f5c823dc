/-
  What the law's lend and kept answer of a state. Condition: its rows can be read, and take at most 2^47 - 4096 bytes.
-/
import Derived.Test.YtcdgfghcmeadgaaDoorIJw
import Derived.Test.YtcdgfghcmeadgaaDoorIGs
import Derived.ArgAppend
import Derived.Laws.AppendOwnNone
namespace Go.Proofs.YtcdgfghcmeadgaaDoor
open Go.RowKit
set_option linter.unusedVariables false

theorem flI_app (X Y : List Rwi) : flI (X ++ Y) = flI X ++ flI Y := by unfold flI; simp
theorem rws_newsI {w : World} {ad : Addr} {n : Nat} {X : List Rwi} (h : Rws w (some ad) n X) : ∀ j u, (flI X)[j]? = some u → w.cell? (ad.add j) = some u := by
  intro j u hj
  have hlt : j < X.length * 3 := by have := (List.getElem?_eq_some_iff.1 hj).1; rwa [flI_len] at this
  rcases h.2 with z | ⟨b, off, ha, _, hc⟩
  · have := h.1; omega
  · cases ha
    have hg := flI_get X (j / 3) (j % 3) (by omega) (by omega)
    rw [show j / 3 * 3 + j % 3 = j by omega, hj] at hg
    have q := hc (j / 3) (by have := h.1; omega) (j % 3) u hg.symm
    rw [Go.WideShapes.add_plain, show off + j = off + j / 3 * 3 + j % 3 by omega]
    exact q
theorem wpList_catI {ops : Array Oper} {rest : List Oper} {o : Oper} {a : Act} {w : World} {Q : Exit → Act → World → Prop} (hgd : o.guard = none) (s x : Operand)
    (ho : o.op = .call { callee := .builtin .append, args := #[s, x], argTypes := #[22, 22] }) (base : Nat)
    (v : Value) (X : List Rwi) (hs : a.eval s = v) (hown : w.ownsRow base 48 3 v X.length (flI X))
    (ao : Option Addr) (c : Nat) (Y : List Rwi) (hx : a.eval x = .slice ao Y.length c) (hao : ao = none → c = 0 ∧ Y = []) (hy : ∀ ad, ao = some ad → ∀ j u, (flI Y)[j]? = some u → w.cell? (ad.add j) = some u)
    (hn : (X.length + Y.length) * 40 ≤ 140737488355328) (hbase : base ≤ w.heap.size)
    (h : ∀ v' w', w'.ownsRow base 48 3 v' (X ++ Y).length (flI (X ++ Y)) → w.grownBy w' v.ownBlock → wpList Tryd.prog ops Q rest (a.put o.dst v') w') :
    wpList Tryd.prog ops Q (o :: rest) a w := by
  obtain ⟨i, hi, hz, h4, h5⟩ := infoRow40
  cases ao with
  | none =>
    obtain ⟨rfl, rfl⟩ := hao rfl
    refine wpList_append_own_none hgd s x 22 ho base 48 i 3 Tryd.underlying22 hi v X.length (flI X) hs hown hx ?_
    exact h v w (by simpa using hown) ⟨rfl, rfl, rfl, Nat.le_refl _, fun _ _ _ => rfl⟩
  | some ad =>
    refine wpList_append_own w hgd s x 22 ho base 48 i (.agg #[.string { data := #[] }, .string { data := #[] }, .int .i64 0]) 3 40 Tryd.underlying22 hi hz h4 h5 rfl (by decide) v X.length (flI X) hs hown ad Y.length c (flI Y) hx (flI_len Y) (hy ad rfl) (flI_one Y) (by unfold maxLen; omega) (by omega) hbase ?_
    intro v' w' k1 k2 _
    exact h v' w' (by rw [List.length_append, flI_app]; exact k1) k2
theorem slice_rhI (b len cap p : Nat) (hp : p ≤ cap) (W : World) : (Instr.slice 22 (.slice (some ⟨b, 0, none⟩) len cap) none (some (.int .i64 (p : Int))) none).run Tryd.prog W = .ok (.slice (some ⟨b, 0, none⟩) p cap) W := by
  have hel : Tryd.prog.elem 22 = 48 := by simp [Program.elem]
  have hsz : (sizeOf 48).run Tryd.prog W = .ok 3 W := by kernel_rfl
  rw [run_slice_h W 22 (some ⟨b, 0, none⟩) len cap (by rw [hel]; exact Tryd.underlying22) .i64 p (by omega) (by omega)]
  rw [hel, hsz]
  simp [sliced, Addr.add]
def rSp : Rwi := ⟨{ data := #[115, 112, 97, 114, 101] }, { data := #[] }, 0⟩
def rRo : Rwi := ⟨{ data := #[114, 111, 111, 109] }, { data := #[] }, 0⟩
theorem own0I (w : World) : (w.alloc (.cells #[] 48)).ownsRow w.heap.size 48 3 (.slice (some ⟨w.heap.size, 0, none⟩) 0 0) 0 (flI []) := ⟨rfl, .inr ⟨w.heap.size, 0, #[], rfl, Nat.le_refl _, heap_new w _, Nat.le_refl _, Nat.zero_le _, rfl, rfl⟩⟩
theorem results_tc {fn : Func} {p q : Tmp} {ty : TypeId} (h : fn.results = #[.tmp q, .cell p ty]) (tmps : Array Value) (P : Program) (w : World) (ad : Addr) (v v2 : Value)
    (hp : tmps.getD p undef = .pointer (some ad)) (h2 : tmps.getD q undef = v2) (hl : (loadVar ty ad).run P w = .ok v w) : (results fn tmps).run P w = .ok (.tuple #[v2, v]) w := by
  have hp' : tmps[p]?.getD undef = .pointer (some ad) := by simpa using hp
  have h2' : tmps[q]?.getD undef = v2 := by simpa using h2
  simp only [results, h]
  simp [hp', h2', asAddr, hl]
theorem gb_above' {w W W' : World} {b : Nat} (h : w.grownBy W none) (k : W.grownBy W' (some b)) (hb : w.heap.size ≤ b) : w.grownBy W' none :=
  ⟨k.os.trans h.os, k.tape.trans h.tape, k.output.trans h.output, Nat.le_trans h.size k.size, fun i hi hn => (k.block i (Nat.lt_of_lt_of_le hi h.size) (fun e => by cases e; omega)).trans (h.block i hi hn)⟩
theorem own_grewE {B : Nat} {w w' : World} {v : Value} {n : Nat} {xs : List Value} {row : Option Nat} (h : w.ownsRow B 48 3 v n xs) (hg : w.grownBy w' row) (hne : ∀ b, v.ownBlock = some b → row ≠ some b) : w'.ownsRow B 48 3 v n xs := by
  refine ⟨h.1, ?_⟩
  rcases h.2 with h0 | ⟨g, cap, cur, rfl, hB, hgb, r⟩
  · exact .inl h0
  · exact .inr ⟨g, cap, cur, rfl, hB, (hg.block g (lt_of_block hgb) (fun e => hne g rfl e.symm)).trans hgb, r⟩
theorem gb_ownE {a b c : World} {row : Option Nat} (h : a.grownBy b none) (k : b.grownBy c row) (hr : ∀ g, row = some g → a.heap.size ≤ g) : a.grownBy c none :=
  ⟨k.os.trans h.os, k.tape.trans h.tape, k.output.trans h.output, Nat.le_trans h.size k.size, fun i hi hn => (k.block i (Nat.lt_of_lt_of_le hi h.size) (fun e => by have := hr i e.symm; omega)).trans (h.block i hi hn)⟩
theorem own_loE {B : Nat} {w : World} {v : Value} {n : Nat} {xs : List Value} (h : w.ownsRow B 48 3 v n xs) (b : Nat) (hb : v.ownBlock = some b) : B ≤ b := by
  rcases h.2 with ⟨z, _⟩ | ⟨g, cp, cur, z, hB, _⟩
  · rw [z] at hb; cases hb
  · rw [z] at hb; cases hb; exact hB
theorem own_capE {B : Nat} {w : World} {g m c : Nat} {xs : List Value} (h : w.ownsRow B 48 3 (.slice (some ⟨g, 0, none⟩) m c) m xs) : m ≤ c := by
  rcases h.2 with ⟨z, _⟩ | ⟨g', cp, cur, z, hB, _, hc, _⟩
  · cases z
  · cases z; exact hc
/-- What lend leaves: the rows and two behind them. -/
def LD (w w' : World) (g cp : Nat) (X : List Rwi) : Prop := w'.ownsRow w.heap.size 48 3 (.slice (some ⟨g, 0, none⟩) (X.length + 2) cp) (X.length + 2) (flI (X ++ [rSp, rRo])) ∧ w.grownBy w' none
theorem bk_set2E {w : World} {b : Nat} {u v x y : Value} (h : Bk 24 w b #[u, v]) : Bk 24 ((w.setCell ⟨b, 0, none⟩ x).setCell ⟨b, 1, none⟩ y) b #[x, y] := by
  have h1 : Bk 24 (w.setCell ⟨b, 0, none⟩ x) b #[x, v] := by
    unfold Bk at h ⊢
    rw [heap_setCell_same w b 0 _ 24 _ h]
    rfl
  unfold Bk at h1 ⊢
  rw [heap_setCell_same _ b 1 _ 24 _ h1]
  rfl
theorem ld_end {w w2 : World} {g cp n : Nat} {X : List Rwi} {seq : Int} (h1 : w2.ownsRow (w.heap.size + 2) 48 3 (.slice (some ⟨g, 0, none⟩) (n + 2) cp) (n + 2) (flI (X ++ [rSp, rRo]))) (h2 : Bk 24 w2 (w.heap.size + 1) #[.int .i64 0, .slice none 0 0]) (h3 : w.grownBy w2 none) (hX : X.length = n) (hg : w.heap.size + 2 ≤ g) :
    Bk 24 (((w2.setCell ⟨w.heap.size + 1, 0, none⟩ (.int .i64 seq)).setCell ⟨w.heap.size + 1, 1, none⟩ (.slice (some ⟨g, 0, none⟩) n cp)).drew) (w.heap.size + 1) #[.int .i64 seq, .slice (some ⟨g, 0, none⟩) n cp] ∧ LD w (((w2.setCell ⟨w.heap.size + 1, 0, none⟩ (.int .i64 seq)).setCell ⟨w.heap.size + 1, 1, none⟩ (.slice (some ⟨g, 0, none⟩) n cp)).drew) g cp X := by
  have e1 := grownBy_cell w2 (w.heap.size + 1) 0 (.int .i64 seq)
  have e2 := grownBy_cell (w2.setCell ⟨w.heap.size + 1, 0, none⟩ (.int .i64 seq)) (w.heap.size + 1) 1 (.slice (some ⟨g, 0, none⟩) n cp)
  have e3 : ((w2.setCell ⟨w.heap.size + 1, 0, none⟩ (.int .i64 seq)).setCell ⟨w.heap.size + 1, 1, none⟩ (.slice (some ⟨g, 0, none⟩) n cp)).grownBy (((w2.setCell ⟨w.heap.size + 1, 0, none⟩ (.int .i64 seq)).setCell ⟨w.heap.size + 1, 1, none⟩ (.slice (some ⟨g, 0, none⟩) n cp)).drew) none := ⟨rfl, rfl, rfl, Nat.le_refl _, fun _ _ _ => rfl⟩
  refine ⟨(bk_set2E h2).grew e3 (by simp), ?_, gb_trans (gb_above' (gb_above' h3 e1 (by omega)) e2 (by omega)) e3⟩
  rw [hX]
  have q := own_grewE (own_grewE (own_grewE h1 e1 (fun b hb e => by have h5 : g = b := Option.some.inj hb; have h6 : w.heap.size + 1 = b := Option.some.inj e; omega)) e2 (fun b hb e => by have h5 : g = b := Option.some.inj hb; have h6 : w.heap.size + 1 = b := Option.some.inj e; omega)) e3 (by simp)
  exact ⟨q.1, q.2.imp id (fun ⟨g', c', cur, z1, z2, z3⟩ => ⟨g', c', cur, z1, by omega, z3⟩)⟩
set_option maxRecDepth 20000 in
set_option maxHeartbeats 2000000 in
theorem lendS_c (seq : Int) (a : Option Addr) (n cap : Nat) (X : List Rwi) (w : World) (h : Rws w a n X) (hnz : a = none → cap = 0) (hlc : n ≤ cap) (hcb : cap * 40 ≤ 140737488351232) :
    Calls Tryd.prog 9 #[.agg #[.int .i64 seq, .slice a n cap]] w fun r w' => ∃ g cp, r = .returned (.tuple #[.slice (some ⟨g, 0, none⟩) (n + 2) cp, .agg #[.int .i64 seq, .slice (some ⟨g, 0, none⟩) n cp]]) ∧ n + 2 ≤ cp ∧ LD w w' g cp X := by
  obtain ⟨W0, hW0⟩ : ∃ W0, W0 = (w.alloc (.cells #[.int .i64 seq, .slice a n cap] 24)).alloc (.cells #[.int .i64 0, .slice none 0 0] 24) := ⟨_, rfl⟩
  have HB0 : Hid (Bk 24 W0 w.heap.size #[.int .i64 seq, .slice a n cap] ∧ Bk 24 W0 (w.heap.size + 1) #[.int .i64 0, .slice none 0 0] ∧ w.grownBy W0 none ∧ W0.heap.size = w.heap.size + 2) := by
    rw [hW0]
    have h1 := blk_new w 24 #[.int .i64 seq, .slice a n cap]
    have h2 := blk_new (w.alloc (.cells #[.int .i64 seq, .slice a n cap] 24)) 24 #[.int .i64 0, .slice none 0 0]
    rw [World.size_alloc] at h2
    exact ⟨h1.1.grew h2.2 (by simp), h2.1, gb_trans h1.2 h2.2, by simp⟩
  have HX : Hid (X.length = n) := h.1
  have HAN : Hid (a = none → cap = 0 ∧ X = []) := fun e => ⟨hnz e, by
    have : n = 0 := by have := hnz e; omega
    exact List.eq_nil_of_length_eq_zero (by rw [h.1]; exact this)⟩
  have HRW : Hid (∀ W, w.grownBy W none → Rws W a n X) := fun W hg => h.below (gbb hg)
  clear h hnz
  go_enter Tryd.func9, Tryd.ntmps9
  have HO0 : Hid ((W0.alloc (.cells #[] 48)).ownsRow (w.heap.size + 2) 48 3 (.slice (some ⟨w.heap.size + 1 + 1, 0, none⟩) 0 0) 0 (flI [])) := by
    have q := own0I W0
    rw [HB0.out.2.2.2] at q
    exact q
  have d1 : (W0.alloc (.cells #[] 48)).cell? ⟨w.heap.size, 1, none⟩ = some (.slice a n cap) := (HB0.out.1.grew (gal _ _) (by simp)).cell 1
  go_wp2_with (first
    | ((fail_if_success (have z := H1)); at_builtin; rw [← hW0]; clear hW0; go_must (refine wpList_catI rfl (.tmp 5) (.tmp 7) rfl (w.heap.size + 2) (.slice (some ⟨w.heap.size + 1 + 1, 0, none⟩) 0 0) [] rfl HO0.out a cap X (by rw [HX.out]; rfl) HAN.out (fun ad e => rws_newsI (e ▸ HRW.out _ (gb_trans HB0.out.2.2.1 (gal _ _)))) (by rw [HX.out]; simp; omega) (by have := HB0.out.2.2.2; have := (gal W0 (.cells #[] 48)).size; omega) ?_); intro v1 w1 k1 k2; go_must (have H1 : Hid (w1.ownsRow (w.heap.size + 2) 48 3 v1 X.length (flI X) ∧ Bk 24 w1 w.heap.size #[.int .i64 seq, .slice a n cap] ∧ Bk 24 w1 (w.heap.size + 1) #[.int .i64 0, .slice none 0 0] ∧ w.grownBy w1 none ∧ w.heap.size + 2 ≤ w1.heap.size) := ⟨k1, (HB0.out.1.grew (gal _ _) (by simp)).grew k2 (fun e => by have h5 : w.heap.size + 1 + 1 = w.heap.size := Option.some.inj e; omega), (HB0.out.2.1.grew (gal _ _) (by simp)).grew k2 (fun e => by have h5 : w.heap.size + 1 + 1 = w.heap.size + 1 := Option.some.inj e; omega), gb_above' (b := w.heap.size + 1 + 1) (gb_trans HB0.out.2.2.1 (gal _ _)) k2 (by omega), by have := HB0.out.2.2.2; have := (gal W0 (.cells #[] 48)).size; have := k2.size; omega⟩); clear k1 k2)
    | ((fail_if_success (have z := H2)); have z := H1; clear z; at_builtin; go_must (refine wpList_catI rfl (.tmp 8) (.tmp 11) rfl (w.heap.size + 2) v1 X rfl (own_grewE H1.out.1 (gal w1 _) (by simp)) (some ⟨w1.heap.size, 0, none⟩) 2 [rSp, rRo] rfl (fun e => by cases e) (fun ad e => by cases e; exact World.news_of_block (heap_new w1 _)) (by rw [HX.out]; simp; omega) (Nat.le_trans H1.out.2.2.2.2 (gal w1 _).size) ?_); intro v2 w2 k1 k2; rw [show (X ++ [rSp, rRo]).length = n + 2 from by rw [List.length_append, HX.out]; rfl] at k1; obtain ⟨g, cp, rfl, kx, ky⟩ := World.ownsRow.form k1 (by omega); have hgr := gb_ownE (gb_trans H1.out.2.2.2.1 (gal w1 _)) k2 (fun b hb => by have := own_loE H1.out.1 b hb; omega); have H2 : Hid (w2.ownsRow (w.heap.size + 2) 48 3 (.slice (some ⟨g, 0, none⟩) (n + 2) cp) (n + 2) (flI (X ++ [rSp, rRo])) ∧ Bk 24 w2 w.heap.size #[.int .i64 seq, .slice a n cap] ∧ Bk 24 w2 (w.heap.size + 1) #[.int .i64 0, .slice none 0 0] ∧ w.grownBy w2 none ∧ n + 2 ≤ cp ∧ w.heap.size + 2 ≤ g) := ⟨k1, (H1.out.2.1.grew (gal _ _) (by simp)).grew k2 (fun e => by have := own_loE H1.out.1 _ e; omega), (H1.out.2.2.1.grew (gal _ _) (by simp)).grew k2 (fun e => by have := own_loE H1.out.1 _ e; omega), hgr, own_capE k1, own_loE k1 _ rfl⟩; clear k1 k2 kx ky hgr))
  have c0 : w2.drew.cell? ⟨w.heap.size, 0, none⟩ = some (.int .i64 seq) := H2.out.2.1.cell 0
  have c1 : w2.drew.cell? ⟨w.heap.size, 1, none⟩ = some (.slice a n cap) := H2.out.2.1.cell 1
  have r0 : w2.drew.cell? ⟨w.heap.size + 1, 0, none⟩ = some (.int .i64 0) := H2.out.2.2.1.cell 0
  have r1 : w2.drew.cell? ⟨w.heap.size + 1, 1, none⟩ = some (.slice none 0 0) := H2.out.2.2.1.cell 1
  have f0 : w2.drew.frozen? ⟨w.heap.size + 1, 0, none⟩ = false := frozen_of_row w2 _ 0 _ _ H2.out.2.2.1
  have f1 : w2.drew.frozen? ⟨w.heap.size + 1, 1, none⟩ = false := frozen_of_row w2 _ 1 _ _ H2.out.2.2.1
  have r0b : w2.cell? ⟨w.heap.size + 1, 0, none⟩ = some (.int .i64 0) := r0
  have r1b : w2.cell? ⟨w.heap.size + 1, 1, none⟩ = some (.slice none 0 0) := r1
  have f0b : w2.frozen? ⟨w.heap.size + 1, 0, none⟩ = false := f0
  have f1b : w2.frozen? ⟨w.heap.size + 1, 1, none⟩ = false := f1
  have hsl := slice_rhI g (n + 2) cp n (by have := H2.out.2.2.2.2.1; omega)
  have hn0 : (0 : Int) ≤ (n : Int) := by omega
  have hn1 : (n : Int) ≤ (cp : Int) := by have := H2.out.2.2.2.2.1; omega
  go_region
  all_goals
    generalize hz : World.drew _ = z3
    have H3 : Hid (Bk 24 z3 (w.heap.size + 1) #[.int .i64 seq, .slice (some ⟨g, 0, none⟩) n cp] ∧ LD w z3 g cp X) := by
      rw [← hz]
      exact ld_end (seq := seq) H2.out.1 H2.out.2.2.1 H2.out.2.2.2.1 HX.out H2.out.2.2.2.2.2
    clear hz c0 c1 r0 r1 f0 f1 r0b r1b f0b f1b
    go_wp2_with fail
    refine bodyPost_ret (results_tc Tryd.results9 _ _ _ ⟨w.heap.size + 1, 0, none⟩ (.agg #[.int .i64 seq, .slice (some ⟨g, 0, none⟩) n cp]) (.slice (some ⟨g, 0, none⟩) (n + 2) cp) rfl rfl (bk_load Tryd.underlying24 rfl infoState H3.out.1 rfl)) rfl ?_
    exact ⟨g, cp, rfl, H2.out.2.2.2.2.1, H3.out.2⟩
end Go.Proofs.YtcdgfghcmeadgaaDoor
