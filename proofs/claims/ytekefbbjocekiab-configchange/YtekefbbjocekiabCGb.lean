/-
  Lists of whole numbers that are cut, and config's behind. Condition: at most 2^44 nodes.
-/
import Derived.Test.YtekefbbjocekiabCGg
namespace Go.Proofs.Ytekefbbjocekiab
open Go.RowKit Go.ChangeShapes Go.WideShapes
set_option linter.unusedVariables false

/-- Where numbers that are cut begin. -/
def cutI (a : Option Addr) (cap p : Nat) : Option Addr := if cap = p then a else a.map (·.add p)
theorem size_i64 (W : World) : (sizeOf 3).run Try.prog W = .ok 1 W := by kernel_rfl
theorem slice_il (a : Option Addr) (len cap p : Nat) (hp : p ≤ len) (W : World) : (Instr.slice 23 (.slice a len cap) (some (.int .i64 (p : Int))) none none).run Try.prog W = .ok (.slice (cutI a cap p) (len - p) (cap - p)) W := by
  have hel : Try.prog.elem 23 = 3 := by simp [Program.elem]
  rw [run_slice_l W 23 a len cap (by rw [hel]; exact Try.underlying23) .i64 p (by omega) (by omega)]
  rw [hel, size_i64]
  simp [sliced, cutI]
theorem slice_ih (a : Option Addr) (len cap p : Nat) (hp : p ≤ cap) (W : World) : (Instr.slice 23 (.slice a len cap) none (some (.int .i64 (p : Int))) none).run Try.prog W = .ok (.slice a p cap) W := by
  have hel : Try.prog.elem 23 = 3 := by simp [Program.elem]
  rw [run_slice_h W 23 a len cap (by rw [hel]; exact Try.underlying23) .i64 p (by omega) (by omega)]
  rw [hel, size_i64]
  simp [sliced]
  intro _
  cases a with
  | none => rfl
  | some x => simp [Addr.add]
theorem seg_cutI {w : World} {a : Option Addr} {len cap : Nat} {xs : List Int} (h : Seg .i64 w a len xs) (p q : Nat) (hpq : p ≤ q) (hq : q ≤ len) (hlc : len ≤ cap) : Seg .i64 w (cutI a cap p) (q - p) ((xs.take q).drop p) := by
  have h1 := h.1
  refine ⟨by simp; omega, ?_⟩
  by_cases hz : q - p = 0
  · exact .inl hz
  · right
    obtain ⟨b, off, rfl, hb, hc⟩ := h.2.resolve_left (by omega)
    have hn : ¬ cap = p := by omega
    refine ⟨b, off + p, by simp [cutI, hn, Addr.add], hb, fun i hi => ?_⟩
    rw [Nat.add_assoc, hc (p + i) (by omega), List.getElem?_drop, List.getElem?_take_of_lt (by omega)]

/-- Parts of a chain, in a block of their own. -/
theorem behind_c (e : Int) (c n1 c1 n2 c2 : Nat) (a1 a2 : Option Addr) (xs ys : List Int) (w : World) (hc0 : w.cell? ⟨c, 0, none⟩ = some (.slice a1 n1 c1)) (hc1 : w.cell? ⟨c, 1, none⟩ = some (.slice a2 n2 c2)) (hcw : c < w.heap.size)
    (hn1 : a1 = none → c1 = 0) (hn2 : a2 = none → c2 = 0) (hs1 : Seg .i64 w a1 n1 xs) (hs2 : Seg .i64 w a2 n2 ys) (hl : n1 + n2 ≤ 17592186044000) (he : 1 ≤ e ∧ e < 1099511627776) :
    Calls Try.prog 44 #[.int .i64 e, .slice (some ⟨c, 0, none⟩) 2 2] w fun r w' => ∃ a' c', r = .returned (.tuple #[.agg #[.int .i64 (e + 1), .slice a' (n1 + n2) c'], .int .i64 0]) ∧ OwI w.heap.size w' (.slice a' (n1 + n2) c') (n1 + n2) (xs ++ ys) ∧ Below w.heap.size w w' := by
  have b0 := alloc_b w (.cells #[.int .i64 0, .slice none 0 0] 25)
  have HC : Hid _ := catI_c c n1 c1 n2 c2 a1 a2 xs ys (w.alloc (.cells #[.int .i64 0, .slice none 0 0] 25)) ((b0.cell (p := ⟨c, 0, none⟩) hcw).trans hc0) ((b0.cell (p := ⟨c, 1, none⟩) hcw).trans hc1) (Nat.lt_of_lt_of_le hcw b0.size) hn1 hn2 (hs1.below b0) (hs2.below b0) (by omega)
  have HB : Hid (Below w.heap.size w (w.alloc (.cells #[.int .i64 0, .slice none 0 0] 25)) ∧ CfB 25 (w.alloc (.cells #[.int .i64 0, .slice none 0 0] 25)) w.heap.size 0 (.slice none 0 0)) := ⟨b0, CfB.new _ _ _ _⟩
  have hne : (e == 1099511627776) = false := by simp; omega
  have hw : wrap64 (e + 1) = e + 1 := IntWalk.wrap64_in _ ⟨by omega, by omega⟩
  have hw2 : IntKind.i64.wrap (e + 1) = e + 1 := IntWalk.i64_in _ ⟨by omega, by omega⟩
  clear hc0 hc1 hn1 hn2 hs1 hs2 b0 he
  go_enter Try.func44, Try.ntmps44
  go_wp2_with (go_at_call 59; go_must (refine (Calls.mono HC.out ?_)); rintro r w1 ⟨v, rfl, ho, hb⟩; obtain ⟨a', c', rfl, _⟩ := ho.seg; have H1 : Hid (OwI (w.alloc (.cells #[.int .i64 0, .slice none 0 0] 25)).heap.size w1 (.slice a' (n1 + n2) c') (n1 + n2) (xs ++ ys) ∧ Below w.heap.size w w1 ∧ CfB 25 w1 w.heap.size 0 (.slice none 0 0)) := ⟨ho, HB.out.1.trans (hb.mono HB.out.1.size), HB.out.2.below hb⟩; have k0 := H1.out.2.2.c0; have k1 := H1.out.2.2.c1; have f0 := H1.out.2.2.fz 0; have f1 := H1.out.2.2.fz 1; clear ho hb)
  have HR : Hid (CfB 25 ((w1.setCell ⟨w.heap.size, 0, none⟩ (.int .i64 (e + 1))).setCell ⟨w.heap.size, 1, none⟩ (.slice a' (n1 + n2) c')) w.heap.size (e + 1) (.slice a' (n1 + n2) c')) := cf_set H1.out.2.2 _ _
  refine bodyPost_ret (results_cellO Try.results44 _ _ _ ⟨w.heap.size, 0, none⟩ _ _ rfl rfl (bk_load Try.underlying25 rfl infoCf HR.out rfl)) rfl ?_
  refine ⟨a', c', rfl, ?_, ?_⟩
  · exact ((H1.out.1.other w.heap.size 0 (by simp) _).other w.heap.size 1 (by simp) _).base (by simp)
  · exact (H1.out.2.1.setCell (p := ⟨w.heap.size, 0, none⟩) (Nat.le_refl _) _).setCell (p := ⟨w.heap.size, 1, none⟩) (Nat.le_refl _) _
theorem behind_no (c : Nat) (w : World) :
    Calls Try.prog 44 #[.int .i64 1099511627776, .slice (some ⟨c, 0, none⟩) 2 2] w fun r w' => r = .returned (.tuple #[.agg #[.int .i64 0, .slice none 0 0], .int .i64 160]) ∧ Below w.heap.size w w' := by
  have HB : Hid (Below w.heap.size w (w.alloc (.cells #[.int .i64 0, .slice none 0 0] 25)) ∧ CfB 25 (w.alloc (.cells #[.int .i64 0, .slice none 0 0] 25)) w.heap.size 0 (.slice none 0 0)) := ⟨alloc_b _ _, CfB.new _ _ _ _⟩
  go_enter Try.func44, Try.ntmps44
  go_wp2
  refine bodyPost_ret (results_cellO Try.results44 _ _ _ ⟨w.heap.size, 0, none⟩ _ _ rfl rfl (bk_load Try.underlying25 rfl infoCf HB.out.2 rfl)) rfl ?_
  exact ⟨rfl, HB.out.1⟩
end Go.Proofs.Ytekefbbjocekiab
