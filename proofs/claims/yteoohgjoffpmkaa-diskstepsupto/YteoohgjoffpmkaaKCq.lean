/-
  What disk's copied answers. Condition: no file is longer than a disk.
-/
import Derived.Test.YteoohgjoffpmkaaKCp
import Derived.Maps.RangeWalk
namespace Go.Proofs.Yteoohgjoffpmkaa
open Go.RowKit Go.ChangeMaps
set_option linter.unusedVariables false

theorem wpList_next_at {ops : Array Oper} {rest : List Oper} {op : Oper} {a : Act} {w : World} {Q : Exit → Act → World → Prop} (hgd : op.guard = none) (it : Operand) (ho : op.op = .next it false) (R bm since c0 : Nat) (seen : Array Nat) (es : Array MapEntry) (clock : Nat) (hx : a.eval it = .pointer (some ⟨R, 0, none⟩))
    (hr : w.heap[R]? = some (.mapIter (some bm) since seen c0)) (hb : w.heap[bm]? = some (.map es clock)) (hold : ∀ x ∈ es.toList, x.born < since) (hsc : since ≤ c0)
    (h1 : (leftOf es seen).size = 0 → wpList Try.prog ops Q rest (a.put op.dst (.tuple #[.bool false])) w)
    (h2 : ∀ e ∈ (leftOf es seen).toList, ∀ w1, (w1 = w ∨ w1 = w.drew) → wpList Try.prog ops Q rest (a.put op.dst (.tuple #[.bool true, e.key, e.val])) (setBlock w1 R (.mapIter (some bm) since (seen.push e.born) clock))) : wpList Try.prog ops Q (op :: rest) a w := by
  refine wpList_plain hgd fun K' hK' => ?_
  unfold Oper.wp
  rcases run_next_at (P := Try.prog) w op.type R bm since c0 seen es clock hr hb hold hsc with ⟨h0, hrun⟩ | ⟨e, he, w1, hw1, hrun⟩
  · simp [execOp, ho, hx, hrun, Result.andThen]
    exact hK' _ _ (h1 h0)
  · simp [execOp, ho, hx, hrun, Result.andThen]
    exact hK' _ _ (h2 e he w1 hw1)
/-- How much is left of a range, off memory. -/
def lfA (es : Array MapEntry) (R : Nat) (wr : World) : Nat := match wr.heap[R]? with
  | some (.mapIter _ _ seen _) => (leftOf es seen).size
  | _ => 0
theorem lfA_at {es : Array MapEntry} {R : Nat} {wr : World} {b c c0 : Nat} {seen : Array Nat} (h : wr.heap[R]? = some (.mapIter (some b) c seen c0)) : lfA es R wr = (leftOf es seen).size := by simp [lfA, h]
theorem len_mapK (w : World) (b c : Nat) (es : Array MapEntry) (h : w.heap[b]? = some (.map es c)) : (Builtin.len_ #[76] 3 #[.map (some b)]).run Try.prog w = .ok (.int .i64 (es.size : Int)) w := by
  simp [Builtin.len_, run_underlying Try.underlying76, MapKept.run_getObj_map h]
  rfl
theorem make_mapK (w : World) (n : Int) : (Instr.makeMap 76 (some (.int .i64 n))).run Try.prog w = .ok (.map (some w.heap.size)) (w.alloc (.map #[] 0)) := by
  simp [Instr.makeMap, asInt]
  rfl
theorem mps_uniq {w : World} {b : Nat} {V V' : ByteArray → Option Value} (h : MpS w b V) (h' : MpS w b V') : V = V' := by
  obtain ⟨es, c, hb, _, _, hV⟩ := h
  obtain ⟨es', c', hb', _, _, hV'⟩ := h'
  rw [hb] at hb'
  cases hb'
  funext s
  cases hs : V s with
  | none =>
    cases hs' : V' s with
    | none => rfl
    | some v => rw [(hV s v).2 ((hV' s v).1 hs')] at hs; cases hs
  | some v => exact ((hV' s v).2 ((hV s v).1 hs)).symm
/-- What comes out of a range over the files. -/
theorem cp_more {O : Nat → Prop} {V F} {w wr w1 : World} {b R c : Nat} {es : Array MapEntry} {seen : Array Nat} {e : MapEntry} (hF : Fl O w b V F) (hbd : bnd F) (hb : w.heap[b]? = some (.map es c)) (hst : MapKept.Stamped es c) (hk : ∀ x ∈ es.toList, MapKept.IsKey .string x.key) (hV : ∀ s v, V s = some v ↔ ∃ x ∈ es.toList, x.key = .string s ∧ x.val = v)
    (hbw : Below w.heap.size w wr) (hR : w.heap.size ≤ R) (hRl : R < wr.heap.size) (he : e ∈ (leftOf es seen).toList) (hw1 : w1 = wr ∨ w1 = wr.drew) :
    ∃ s xs a cap, e.key = .string s ∧ e.val = .slice a xs.length cap ∧ F s = some xs ∧ Bytes xs ∧ (a = none → cap = 0) ∧ xs.length ≤ 67108864 ∧ (Instr.entry (.pointer (some ⟨R, 0, none⟩))).run Try.prog (setBlock w1 R (.mapIter (some b) c (seen.push e.born) c)) = .ok (.tuple #[.string s, .slice a xs.length cap]) (setBlock w1 R (.mapIter (some b) c (seen.push e.born) c)) ∧ Seg .u8 (setBlock w1 R (.mapIter (some b) c (seen.push e.born) c)) a xs.length xs := by
  have hbl := hF.mp.lt
  have hem : e ∈ es.toList := by
    unfold leftOf at he
    rw [Array.toList_filter, List.mem_filter] at he
    exact he.1
  obtain ⟨s, hs⟩ := str_of_key (hk e hem)
  obtain ⟨xs, h1, h2, h3⟩ := hF.is s e.val ((hV s e.val).2 ⟨e, hem, hs, rfl⟩)
  obtain ⟨a, cap, h4, h5, h6, _⟩ := h2.seg
  have hh : w1.heap = wr.heap := by rcases hw1 with q | q <;> rw [q] <;> rfl
  have hbn : Below w.heap.size w (setBlock w1 R (.mapIter (some b) c (seen.push e.born) c)) := by
    refine below_setBlock ?_ _ hR
    rcases hw1 with q | q
    · rw [q]; exact hbw
    · rw [q]; exact hbw.drew
  have hRn : (setBlock w1 R (.mapIter (some b) c (seen.push e.born) c)).heap[R]? = some (.mapIter (some b) c (seen.push e.born) c) := by
    have : R < w1.heap.size := by rw [hh]; exact hRl
    simp [setBlock, this]
  refine ⟨s, xs, a, cap, hs, h4, h1, h3, h6, (hbd s xs h1).1, ?_, h5.gr (G := fun _ => False) (Gr.ofB hbn) (fun _ _ _ _ z => z)⟩
  have z := run_entry_at (P := Try.prog) _ R b c seen es c e hRn ((hbn.block b hbl).trans hb) hem hst.2.1
  rw [hs, h4] at z
  exact z
set_option maxRecDepth 20000 in
set_option maxHeartbeats 2000000 in
theorem copiedA_c {O : Nat → Prop} {V F} (b : Nat) (w : World) (h : Fl O w b V F) (hbd : bnd F) :
    Calls Try.prog 40 #[.map (some b)] w fun r w' => ∃ m, r = .returned (.map (some m)) ∧ w.heap.size ≤ m ∧ Below w.heap.size w w' ∧ ∃ V', Fl (fun k => w.heap.size ≤ k ∧ k < w'.heap.size) w' m V' F := by
  obtain ⟨es, c, hb, hst, hk, hV⟩ := h.mp
  have hlt := h.mp.lt
  obtain ⟨R, hR⟩ : ∃ R, R = w.heap.size + 1 := ⟨_, rfl⟩
  obtain ⟨w2, hw2⟩ : ∃ w2, w2 = (w.alloc (.map #[] 0)).alloc (.mapIter (some b) c #[] c) := ⟨_, rfl⟩
  have b1 : Below w.heap.size w (w.alloc (.map #[] 0)) := (Below.refl _ _).alloc (Nat.le_refl _) _
  have b2 : Below w.heap.size w w2 := by rw [hw2]; exact b1.alloc (by rw [World.size_alloc]; omega) _
  have hs2 : w2.heap.size = w.heap.size + 2 := by rw [hw2, World.size_alloc, World.size_alloc]
  have HI : Hid (CpI w b w.heap.size R es c F #[] w2) := by
    refine ⟨⟨c, ?_, Nat.le_refl _⟩, b2, fun _ => none, fun _ => none, fl_none ?_ ⟨Nat.le_refl _, by omega, by omega⟩, fun s => .inl rfl, fun x hx q => by simp at q⟩
    · rw [hw2, hR]
      have z := heap_new (w.alloc (.map #[] 0)) (.mapIter (some b) c #[] c)
      rw [World.size_alloc] at z
      exact z
    · have z := mps_new w
      rw [hw2]
      exact z.gr (G := fun _ => False) ((Gr.refl _ _).alloc _) (fun z => z)
  have hln := len_mapK w b c es hb
  have hmk := make_mapK w
  have hb1 : (w.alloc (.map #[] 0)).heap[b]? = some (.map es c) := (b1.block b hlt).trans hb
  have hrg := run_range_map (P := Try.prog) (w.alloc (.map #[] 0)) 76 _ _ b es c Try.underlying76 hb1
  rw [World.size_alloc, ← hR, ← hw2] at hrg
  have HFL : Hid (Fl O w b V F ∧ bnd F) := ⟨h, hbd⟩
  have HES : Hid (w.heap[b]? = some (.map es c) ∧ MapKept.Stamped es c ∧ ∀ s v, V s = some v ↔ ∃ x ∈ es.toList, x.key = .string s ∧ x.val = v) := ⟨hb, hst, hV⟩
  have HKY : Hid (∀ x ∈ es.toList, MapKept.IsKey .string x.key) := hk
  have HR : Hid (R = w.heap.size + 1 ∧ w2.heap.size = w.heap.size + 2) := ⟨hR, hs2⟩
  obtain ⟨m, hm⟩ : ∃ m, m = w.heap.size := ⟨_, rfl⟩
  have HM : Hid (m = w.heap.size) := hm
  rw [← hm] at HI
  clear h hbd hb hst hk hV hlt hR hw2 b1 b2 hs2 hb1
  rw [HM.out] at HI
  clear HM hm m
  go_enter Try.func40, Try.ntmps40
  go_wp2
  go_loopw [11] (fun u wr => ∃ seen, u = u ∧ Hid (CpI w b w.heap.size R es c F seen wr) ∧ Hid (R < wr.heap.size)) (fun _ wr => lfA es R wr)
  case atStart => exact ⟨#[], rfl, HI, by show _ < _; have := HR.out; omega⟩
  case round =>
    obtain ⟨seen, _, hr, hRl⟩ := hrel
    obtain ⟨⟨c0, r1, r2⟩, hbw, _⟩ := hr.out
    have hbr : wr.heap[b]? = some (.map es c) := (hbw.block b HFL.out.1.mp.lt).trans HES.out.1
    have HL : Hid (lfA es R wr = (leftOf es seen).size) := lfA_at r1
    have HH : Hid (wr.heap[R]? = some (.mapIter (some b) c seen c0) ∧ wr.heap[b]? = some (.map es c) ∧ c ≤ c0) := ⟨r1, hbr, r2⟩
    have HDN : Hid ((leftOf es seen).size = 0 → Below w.heap.size w wr ∧ ∃ V', Fl (fun k => w.heap.size ≤ k ∧ k < wr.heap.size) wr w.heap.size V' F) := fun h0 => hr.out.done HFL.out.1 HES.out.2.2 h0
    clear r1 r2 hbw hbr
    have HMR : Hid (∀ e ∈ (leftOf es seen).toList, ∀ w1, (w1 = wr ∨ w1 = wr.drew) → ∃ s xs a cap, e.key = .string s ∧ e.val = .slice a xs.length cap ∧ F s = some xs ∧ Bytes xs ∧ (a = none → cap = 0) ∧ xs.length ≤ 67108864 ∧ (Instr.entry (.pointer (some ⟨R, 0, none⟩))).run Try.prog (setBlock w1 R (.mapIter (some b) c (seen.push e.born) c)) = .ok (.tuple #[.string s, .slice a xs.length cap]) (setBlock w1 R (.mapIter (some b) c (seen.push e.born) c)) ∧ Seg .u8 (setBlock w1 R (.mapIter (some b) c (seen.push e.born) c)) a xs.length xs) := by
      show ∀ e, _
      intro e he w1 hw1
      exact cp_more HFL.out.1 HFL.out.2 HES.out.1 HES.out.2.1 HKY.out HES.out.2.2 hr.out.2.1 (by have := HR.out.1; omega) hRl.out he hw1
    have HPT : Hid (∀ e ∈ (leftOf es seen).toList, ∀ w1, (w1 = wr ∨ w1 = wr.drew) → ∀ s xs a' c' wn x1, wn = setBlock w1 R (.mapIter (some b) c (seen.push e.born) c) → e.key = .string s → F s = some xs → Bytes xs → Own wn.heap.size x1 (.slice a' xs.length c') xs.length xs → Below wn.heap.size wn x1 → ∃ x2, (Instr.mapUpdate 76 (.map (some w.heap.size)) (.string s) (.slice a' xs.length c')).run Try.prog x1 = .ok () x2 ∧ Hid (CpI w b w.heap.size R es c F (seen.push e.born) x2) ∧ Hid (R < x2.heap.size) ∧ Hid (lfA es R x2 < (leftOf es seen).size)) := by
      show ∀ e, _
      intro e he w1 hw1 s xs a' c' wn x1 hwn hks hfs hby hown hb1
      obtain ⟨V', F', q1, q2, q3⟩ := hr.out.2.2
      have hh : w1.heap = wr.heap := by rcases hw1 with q | q <;> rw [q] <;> rfl
      have hsz : wn.heap.size = wr.heap.size := by rw [hwn]; simp only [setBlock, Array.size_setIfInBounds, hh]
      have hmR : w.heap.size ≠ R := by have := HR.out.1; omega
      have hml := q1.mp.lt
      have hm1 : MpS x1 w.heap.size V' := by
        obtain ⟨es', c9, k1, k2⟩ := q1.mp
        refine ⟨es', c9, ?_, k2⟩
        rw [hb1.block w.heap.size (by omega), hwn, heap_setBlock w1 R w.heap.size _ hmR, hh]
        exact k1
      obtain ⟨x2, k1, k2, k3, k4⟩ := mps_upd Try.underlying76 Try.underlying9 hm1 s (.slice a' xs.length c')
      have hcp : CpI w b w.heap.size R es c F (seen.push e.born) x2 := hr.out.step HFL.out.1 HES.out.2.1 he hks hfs hmR ⟨by have := HR.out.1; omega, hRl.out⟩ (Nat.le_refl _) hw1 hwn ⟨hown, hb1⟩ hby (fun V'' hV'' => by rw [mps_uniq hV'' hm1]; exact k2) k3 k4
      refine ⟨x2, k1, hcp, by show _ < _; have := hb1.size; have := hRl.out; omega, ?_⟩
      obtain ⟨⟨c1, z1, _⟩, _⟩ := hcp
      show _ < _
      rw [lfA_at z1]
      exact left_lt he
    clear hr hRl
    go_wp2_with (first
      | (at_next; refine wpList_next_at rfl _ rfl R b c c0 seen es c rfl HH.out.1 HH.out.2.1 HES.out.2.1.1 HH.out.2.2 ?_ ?_ <;> first
        | (intro h0; have H0 : Hid (Below w.heap.size w wr ∧ ∃ V', Fl (fun k => w.heap.size ≤ k ∧ k < wr.heap.size) wr w.heap.size V' F) := HDN.out h0; clear h0)
        | (intro e he w1 hw1; obtain ⟨s, xs, a, cap, k1, k2, k3, k4, k5, k6, hen, k8⟩ := HMR.out e he w1 hw1; have HP := HPT.out e he w1 hw1 s xs; generalize hwn : setBlock w1 R (.mapIter (some b) c (seen.push e.born) c) = wn at hen k8 HP ⊢; rw [k1, k2]; have H1 : Hid (F s = some xs ∧ Bytes xs ∧ (a = none → cap = 0) ∧ xs.length ≤ 67108864 ∧ Seg .u8 wn a xs.length xs ∧ e.key = .string s) := ⟨k3, k4, k5, k6, k8, k1⟩; have HP2 : Hid (∀ a' c' x1, Own wn.heap.size x1 (.slice a' xs.length c') xs.length xs → Below wn.heap.size wn x1 → ∃ x2, (Instr.mapUpdate 76 (.map (some w.heap.size)) (.string s) (.slice a' xs.length c')).run Try.prog x1 = .ok () x2 ∧ Hid (CpI w b w.heap.size R es c F (seen.push e.born) x2) ∧ Hid (R < x2.heap.size) ∧ Hid (lfA es R x2 < (leftOf es seen).size)) := (fun a' c' x1 z1 z2 => HP a' c' wn x1 rfl k1 k3 k4 z1 z2); clear HP hwn k1 k2 k3 k4 k5 k6 k8 he hw1))
      | (go_at_call 39; go_must (refine (Calls.mono (kclone_c a xs.length cap xs _ H1.out.2.2.2.2.1 (Nat.le_trans H1.out.2.2.2.1 (by decide)) H1.out.2.2.1) ?_)); rintro r x1 ⟨a', c', rfl, z1, z2⟩; obtain ⟨x2, hup, K1, K2, K3⟩ := HP2.out a' c' x1 z1 z2; clear z1 z2))
    · go_ret
      exact ⟨w.heap.size, rfl, Nat.le_refl _, H0.out.1, H0.out.2⟩
    · go_roundw
      · exact ⟨seen.push e.born, trivial, K1, K2⟩
      · rw [HL.out]
        exact K3.out
end Go.Proofs.Yteoohgjoffpmkaa
