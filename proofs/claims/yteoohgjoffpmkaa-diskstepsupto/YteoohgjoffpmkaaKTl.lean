/-
  What disk's taken answers of files. Condition: at most 67108864 bytes.
-/
import Derived.Test.YteoohgjoffpmkaaKTk
namespace Go.Proofs.Yteoohgjoffpmkaa
open Go.RowKit Go.ChangeMaps
set_option linter.unusedVariables false

/-- How far taken has come. -/
def TkI (w : World) (b R c : Nat) (seen : Array Nat) (wr : World) : Prop := (∃ c0, wr.heap[R]? = some (.mapIter (some b) c seen c0) ∧ c ≤ c0) ∧ Below w.heap.size w wr ∧ R < wr.heap.size
set_option maxRecDepth 20000 in
set_option maxHeartbeats 2000000 in
theorem takenF_c {O : Nat → Prop} {V F} (b n : Nat) (w : World) (h : Fl O w b V F) (ht : Tot F n) (hn : n ≤ 67108864) (hbd : bnd F) :
    Calls Try.prog 59 #[.map (some b)] w fun r w' => r = .returned (.int .i64 (n : Int)) ∧ Below w.heap.size w w' := by
  obtain ⟨es, c, hb, hst, hk, hV⟩ := h.mp
  have hte := tot_es h ht hst hk hV
  have hrg := run_range_map (P := Try.prog) w 76 _ _ b es c Try.underlying76 hb
  obtain ⟨w2, hw2⟩ : ∃ w2, w2 = w.alloc (.mapIter (some b) c #[] c) := ⟨_, rfl⟩
  have HI : Hid (TkI w b w.heap.size c #[] w2) := by
    refine ⟨⟨c, ?_, Nat.le_refl _⟩, ?_, ?_⟩
    · rw [hw2]; exact heap_new w _
    · rw [hw2]; exact (Below.refl _ _).alloc (Nat.le_refl _) _
    · rw [hw2, World.size_alloc]; omega
  rw [← hw2] at hrg
  have HT : Hid (∀ seen, tkS F seen es.toList ≤ n) := fun seen => by rw [← hte]; exact tkS_le F seen es.toList
  have HA : Hid (∀ seen, (leftOf es seen).size = 0 → tkS F seen es.toList = n) := fun seen h0 => (tkS_all h0).trans hte
  have HFL : Hid (Fl O w b V F ∧ bnd F) := ⟨h, hbd⟩
  have HES : Hid (w.heap[b]? = some (.map es c) ∧ MapKept.Stamped es c ∧ ∀ s v, V s = some v ↔ ∃ x ∈ es.toList, x.key = .string s ∧ x.val = v) := ⟨hb, hst, hV⟩
  have HKY : Hid (∀ x ∈ es.toList, MapKept.IsKey .string x.key) := hk
  have HN : Hid (n ≤ 67108864) := hn
  have hz0 : (0 : Int) = ((tkS F #[] es.toList : Nat) : Int) := by
    have e : tkS F #[] es.toList = 0 := by
      unfold tkS
      rw [List.filter_eq_nil_iff.2 (fun x _ => by simp)]
      rfl
    rw [e]; rfl
  have HZ : Hid ((0 : Int) = ((tkS F #[] es.toList : Nat) : Int)) := hz0
  clear h ht hn hbd hb hst hk hV hte hw2 hz0
  go_enter Try.func59, Try.ntmps59
  go_wp2
  go_loopw [3] (fun u wr => ∃ seen, u = .int .i64 ((tkS F seen es.toList : Nat) : Int) ∧ Hid (TkI w b w.heap.size c seen wr)) (fun _ wr => lfA es w.heap.size wr)
  case atStart => exact ⟨#[], congrArg (Value.int .i64) HZ.out, HI⟩
  case round =>
    obtain ⟨seen, rfl, hr⟩ := hrel
    obtain ⟨⟨c0, r1, r2⟩, hbw, hRl⟩ := hr.out
    have hbr : wr.heap[b]? = some (.map es c) := (hbw.block b HFL.out.1.mp.lt).trans HES.out.1
    have HL : Hid (lfA es w.heap.size wr = (leftOf es seen).size) := lfA_at r1
    have HH : Hid (wr.heap[w.heap.size]? = some (.mapIter (some b) c seen c0) ∧ wr.heap[b]? = some (.map es c) ∧ c ≤ c0) := ⟨r1, hbr, r2⟩
    obtain ⟨T, hT⟩ : ∃ T, T = tkS F seen es.toList := ⟨_, rfl⟩
    have HMR : Hid (∀ e ∈ (leftOf es seen).toList, ∀ w1, (w1 = wr ∨ w1 = wr.drew) → ∃ (s : ByteArray) (xs : List Int) (a : Option Addr) (cap : Nat), e.key = .string s ∧ e.val = .slice a xs.length cap ∧ s.size ≤ 60 ∧ xs.length ≤ 67108864 ∧ (Instr.entry (.pointer (some ⟨w.heap.size, 0, none⟩))).run Try.prog (setBlock w1 w.heap.size (.mapIter (some b) c (seen.push e.born) c)) = .ok (.tuple #[.string s, .slice a xs.length cap]) (setBlock w1 w.heap.size (.mapIter (some b) c (seen.push e.born) c)) ∧ tkS F (seen.push e.born) es.toList = T + (s.size + xs.length) ∧ Hid (TkI w b w.heap.size c (seen.push e.born) (setBlock w1 w.heap.size (.mapIter (some b) c (seen.push e.born) c))) ∧ Hid (lfA es w.heap.size (setBlock w1 w.heap.size (.mapIter (some b) c (seen.push e.born) c)) < (leftOf es seen).size)) := by
      show ∀ e, _
      intro e he w1 hw1
      obtain ⟨s, xs, a, cap, k1, k2, k3, k4, k5, k6, k7, _⟩ := cp_more HFL.out.1 HFL.out.2 HES.out.1 HES.out.2.1 HKY.out HES.out.2.2 hbw (Nat.le_refl _) hRl he hw1
      have hem : e ∈ es.toList ∧ seen.contains e.born = false := by
        unfold leftOf at he
        rw [Array.toList_filter, List.mem_filter] at he
        refine ⟨he.1, ?_⟩
        have := he.2
        cases hq : seen.contains e.born with
        | false => rfl
        | true => rw [hq] at this; cases this
      have hh : w1.heap = wr.heap := by rcases hw1 with q | q <;> rw [q] <;> rfl
      have hRn : (setBlock w1 w.heap.size (.mapIter (some b) c (seen.push e.born) c)).heap[w.heap.size]? = some (.mapIter (some b) c (seen.push e.born) c) := by
        have : w.heap.size < w1.heap.size := by rw [hh]; exact hRl
        simp [setBlock, this]
      have hbn : Below w.heap.size w (setBlock w1 w.heap.size (.mapIter (some b) c (seen.push e.born) c)) := by
        refine below_setBlock ?_ _ (Nat.le_refl _)
        rcases hw1 with q | q
        · rw [q]; exact hbw
        · rw [q]; exact hbw.drew
      refine ⟨s, xs, a, cap, k1, k2, (nm_size (HFL.out.2 s xs k3).2).2, k6, k7, ?_, ⟨⟨c, hRn, Nat.le_refl _⟩, hbn, by simp only [setBlock, Array.size_setIfInBounds, hh]; exact hRl⟩, by show _ < _; rw [lfA_at hRn]; exact left_lt he⟩
      rw [tkS_push F seen e es.toList HES.out.2.1.2.1 hem.1 hem.2, hT, k1]
      show _ + (s.size + ((F s).getD []).length) = _
      rw [k3]; rfl
    have HDN : Hid ((leftOf es seen).size = 0 → T = n) := fun h0 => by rw [hT]; exact HA.out seen h0
    have HBW : Hid (Below w.heap.size w wr) := hbw
    have HTN : Hid (∀ k, T + k = T + k → T ≤ n) := fun _ _ => by rw [hT]; exact HT.out seen
    rw [← hT]
    clear r1 r2 hbw hbr hr hRl hT
    go_wp2_with (first
      | (at_next; refine wpList_next_at rfl _ rfl w.heap.size b c c0 seen es c rfl HH.out.1 HH.out.2.1 HES.out.2.1.1 HH.out.2.2 ?_ ?_ <;> first
        | (intro h0; have H0 : Hid (T = n) := HDN.out h0; clear h0)
        | (intro e he w1 hw1; obtain ⟨s, xs, a, cap, k1, k2, k3, k4, hen, k5, K6, K7⟩ := HMR.out e he w1 hw1; generalize setBlock w1 w.heap.size (.mapIter (some b) c (seen.push e.born) c) = wn at hen K6 K7 ⊢; rw [k1, k2]; have H1 : Hid (s.size ≤ 60 ∧ xs.length ≤ 67108864 ∧ tkS F (seen.push e.born) es.toList = T + (s.size + xs.length)) := ⟨k3, k4, k5⟩; have hwx : wrap64 ((T : Int) + ((s.size : Int) + xs.length)) = ((tkS F (seen.push e.born) es.toList : Nat) : Int) := (by have z1 := HTN.out 0 rfl; have z2 := HN.out; rw [k5, IntWalk.wrap64_in _ ⟨by omega, by omega⟩]; omega); clear k1 k2 k3 k4 k5 he hw1))
      | (go_at_call 38; go_must (refine (Calls.mono (takenA_c s a xs.length cap _ (Nat.le_trans H1.out.1 (by decide)) (Nat.le_trans H1.out.2.1 (by decide))) ?_)); rintro r wq ⟨rfl, hq⟩; obtain rfl := hq.symm; clear hq))
    · go_ret
      exact ⟨by rw [H0.out]; simp, HBW.out⟩
    · go_roundw
      · exact ⟨seen.push e.born, congrArg (Value.int .i64) hwx, K6⟩
      · rw [HL.out]
        exact K7.out
end Go.Proofs.Yteoohgjoffpmkaa
