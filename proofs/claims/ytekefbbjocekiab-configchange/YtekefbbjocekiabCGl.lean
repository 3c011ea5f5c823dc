/-
  What config's look answers: the places of the nodes, and the error. Condition: the chain can be read.
-/
import Derived.Test.YtekefbbjocekiabCGq
namespace Go.Proofs.Ytekefbbjocekiab
open Go.RowKit
set_option linter.unusedVariables false

/-- The places that look answers. -/
def lkP (e : Int) (xs : List Int) : List Value := if chk e xs = 0 then plcs xs else plcs []
theorem lkP_length (e : Int) (xs : List Int) : (lkP e xs).length = 9 := by unfold lkP; split <;> exact plcs_length _
theorem infoPl : (Try.prog.info? 77).map (·.size) = some 9 := by kernel_rfl
theorem results_cellO {fn : Func} {p q : Tmp} {ty : TypeId} (h : fn.results = #[.cell p ty, .tmp q]) (tmps : Array Value) (P : Program) (w : World) (ad : Addr) (v v2 : Value)
    (hp : tmps.getD p undef = .pointer (some ad)) (h2 : tmps.getD q undef = v2) (hl : (loadVar ty ad).run P w = .ok v w) : (results fn tmps).run P w = .ok (.tuple #[v, v2]) w := by
  have hp' : tmps[p]?.getD undef = .pointer (some ad) := by simpa using hp
  have h2' : tmps[q]?.getD undef = v2 := by simpa using h2
  simp only [results, h]
  simp [hp', h2', asAddr, hl]
def isN (x : Int) : Bool := decide ((1 : Int) ≤ x) && decide (x ≤ (8 : Int))
theorem isnode_c (x : Int) (w : World) : Calls Try.prog 45 #[.int .i64 x] w fun r w' => r = .returned (.bool (isN x)) ∧ w' = w := by
  by_cases h1 : (1 : Int) ≤ x
  · have hd1 : decide ((1 : Int) ≤ x) = true := decide_eq_true h1
    by_cases h2 : x ≤ (8 : Int)
    · have hd2 : decide (x ≤ (8 : Int)) = true := decide_eq_true h2
      have HR : Hid (isN x = true) := by show _ = _; unfold isN; rw [hd1, hd2]; rfl
      go_enter Try.func45, Try.ntmps45
      go_wp2
      go_ret
      exact ⟨by rw [HR.out]; rfl, rfl⟩
    · have hd2 : decide (x ≤ (8 : Int)) = false := decide_eq_false h2
      have HR : Hid (isN x = false) := by show _ = _; unfold isN; rw [hd1, hd2]; rfl
      go_enter Try.func45, Try.ntmps45
      go_wp2
      go_ret
      exact ⟨by rw [HR.out]; rfl, rfl⟩
  · have hd1 : decide ((1 : Int) ≤ x) = false := decide_eq_false h1
    have HR : Hid (isN x = false) := by show _ = _; unfold isN; rw [hd1]; rfl
    go_enter Try.func45, Try.ntmps45
    go_wp2
    go_ret
    exact ⟨by rw [HR.out]; rfl, rfl⟩
theorem isN_yes {x : Int} (h1 : 1 ≤ x) (h2 : x ≤ 8) : isN x = true := by unfold isN; rw [decide_eq_true h1, decide_eq_true h2]; rfl
theorem isN_no {x : Int} (h : ¬ (1 ≤ x ∧ x ≤ 8)) : isN x = false := by
  unfold isN
  by_cases h1 : 1 ≤ x
  · rw [decide_eq_true h1, decide_eq_false (fun h2 => h ⟨h1, h2⟩)]; rfl
  · rw [decide_eq_false h1]; rfl
def zer9 : Array Value := #[.int .i64 0, .int .i64 0, .int .i64 0, .int .i64 0, .int .i64 0, .int .i64 0, .int .i64 0, .int .i64 0, .int .i64 0]
theorem zer9_eq : zer9 = (plcs []).toArray := by rw [plcs_nil]; rfl
/-- Look's variables: the configuration, the answer, the places. -/
structure LkW (w wr : World) (N : Nat) (e : Int) (v : Value) (ps : List Value) : Prop where
  c : CfB 25 wr N e v
  r : Bk 77 wr (N + 1) zer9
  p : Bk 77 wr (N + 1 + 1) ps.toArray
  b : Below w.heap.size w wr
  n : N = w.heap.size
theorem lkw_new (w : World) (e : Int) (v : Value) : LkW w (((w.alloc (.cells #[.int .i64 e, v] 25)).alloc (.cells zer9 77)).alloc (.cells zer9 77)) w.heap.size e v (plcs []) := by
  have b1 : Below w.heap.size w (w.alloc (.cells #[.int .i64 e, v] 25)) := (Below.refl _ _).alloc (Nat.le_refl _) _
  have b2 := (Below.refl (w.alloc (.cells #[.int .i64 e, v] 25)).heap.size (w.alloc (.cells #[.int .i64 e, v] 25))).alloc (Nat.le_refl _) (.cells zer9 77)
  have b3 := (Below.refl ((w.alloc (.cells #[.int .i64 e, v] 25)).alloc (.cells zer9 77)).heap.size ((w.alloc (.cells #[.int .i64 e, v] 25)).alloc (.cells zer9 77))).alloc (Nat.le_refl _) (.cells zer9 77)
  have h2 := heap_new (w.alloc (.cells #[.int .i64 e, v] 25)) (.cells zer9 77)
  have h3 := heap_new ((w.alloc (.cells #[.int .i64 e, v] 25)).alloc (.cells zer9 77)) (.cells zer9 77)
  simp only [World.size_alloc] at h2 h3
  refine ⟨((CfB.new _ _ _ _).below b2).below b3, (b3.block (w.heap.size + 1) (by simp)).trans h2, by rw [← zer9_eq]; exact h3, ?_, rfl⟩
  exact (b1.trans (b2.mono (by simp))).trans (b3.mono (by simp; omega))
theorem LkW.drewN {w wr N e v ps} (h : LkW w wr N e v ps) (n : Nat) : LkW w (wr.drewN n) N e v ps := ⟨h.c, h.r, h.p, below_drewN h.b n, h.n⟩
theorem LkW.set {w wr N e v} {xs : List Int} {k : Nat} {X : Nat} (h : LkW w wr N e v (plcs (xs.take k))) (hx : xs[k]? = some (X : Int)) (hX : X ≤ 8) (hn : (X : Int) ∉ xs.take k) :
    LkW w (wr.setCell ⟨N + 1 + 1, X, none⟩ (.int .i64 ((k : Int) + 1))) N e v (plcs (xs.take (k + 1))) := by
  have hk := (List.getElem?_eq_some_iff.1 hx).1
  have e1 : xs.take (k + 1) = xs.take k ++ [(X : Int)] := by rw [List.take_add_one, hx]; rfl
  have hne1 : N ≠ N + 1 + 1 := by omega
  have hne2 : N + 1 ≠ N + 1 + 1 := by omega
  refine ⟨?_, ?_, ?_, ?_, h.n⟩
  · exact (heap_setCell_other wr ⟨N + 1 + 1, X, none⟩ N _ hne1).trans h.c
  · exact (heap_setCell_other wr ⟨N + 1 + 1, X, none⟩ (N + 1) _ hne2).trans h.r
  · rw [e1, plcs_step _ _ (by omega) (by omega) hn, List.length_take, Nat.min_eq_left (Nat.le_of_lt hk), Int.toNat_natCast]
    have := heap_setCell_same wr (N + 1 + 1) X _ 77 (.int .i64 ((k : Int) + 1)) h.p
    rw [List.setIfInBounds_toArray] at this
    exact this
  · exact h.b.setCell (p := ⟨N + 1 + 1, X, none⟩) (by show w.heap.size ≤ N + 1 + 1; rw [h.n]; omega) _
set_option maxRecDepth 20000 in
set_option maxHeartbeats 2000000 in
theorem look_c (e : Int) (a : Option Addr) (n c : Nat) (xs : List Int) (w : World) (h : Seg .i64 w a n xs) : Calls Try.prog 41 #[.agg #[.int .i64 e, .slice a n c]] w fun r w' => r = .returned (.tuple #[.agg (lkP e xs).toArray, .int .i64 (chk e xs)]) ∧ Below w.heap.size w w' := by
  have hlen := h.1
  have HL := lkw_new w e (.slice a n c)
  by_cases h1 : e < 1
  · have HR : Hid (chk e xs = 160 ∧ zer9 = (lkP e xs).toArray) := ⟨chk_e (by omega), by unfold lkP; rw [chk_e (by omega)]; exact zer9_eq⟩
    replace HL : Hid _ := HL
    clear h hlen
    go_enter Try.func41, Try.ntmps41
    go_wp2
    generalize hW : World.alloc (World.alloc (World.alloc w _) _) _ = W3
    replace HL : Hid (LkW w W3 _ e (.slice a n c) (plcs [])) := hW ▸ HL.out
    refine bodyPost_ret (results_cellO Try.results41 _ _ _ ⟨w.heap.size + 1, 0, none⟩ _ _ rfl rfl (bk_load Try.underlying77 rfl infoPl HL.out.r rfl)) rfl ?_
    exact ⟨by rw [HR.out.1, HR.out.2]; rfl, HL.out.b⟩
  have hd1 : decide ((1 : Int) ≤ e) = true := decide_eq_true (by omega)
  by_cases h2 : 1099511627776 < e
  · have hd2 : decide (e ≤ (1099511627776 : Int)) = false := decide_eq_false (by omega)
    have HR : Hid (chk e xs = 160 ∧ zer9 = (lkP e xs).toArray) := ⟨chk_e (by omega), by unfold lkP; rw [chk_e (by omega)]; exact zer9_eq⟩
    replace HL : Hid _ := HL
    clear h hlen
    go_enter Try.func41, Try.ntmps41
    go_wp2
    generalize hW : World.alloc (World.alloc (World.alloc w _) _) _ = W3
    replace HL : Hid (LkW w W3 _ e (.slice a n c) (plcs [])) := hW ▸ HL.out
    refine bodyPost_ret (results_cellO Try.results41 _ _ _ ⟨w.heap.size + 1, 0, none⟩ _ _ rfl rfl (bk_load Try.underlying77 rfl infoPl HL.out.r rfl)) rfl ?_
    exact ⟨by rw [HR.out.1, HR.out.2]; rfl, HL.out.b⟩
  have hd2 : decide (e ≤ (1099511627776 : Int)) = true := decide_eq_true (by omega)
  by_cases h3 : n < 1
  · have HR : Hid (chk e xs = 162 ∧ zer9 = (lkP e xs).toArray) := ⟨chk_n (by omega) (by omega), by unfold lkP; rw [chk_n (by omega) (by omega)]; exact zer9_eq⟩
    obtain rfl : n = 0 := by omega
    replace HL : Hid _ := HL
    clear h hlen
    go_enter Try.func41, Try.ntmps41
    go_wp2
    generalize hW : World.alloc (World.alloc (World.alloc w _) _) _ = W3
    replace HL : Hid (LkW w W3 _ e (.slice a 0 c) (plcs [])) := hW ▸ HL.out
    refine bodyPost_ret (results_cellO Try.results41 _ _ _ ⟨w.heap.size + 1, 0, none⟩ _ _ rfl rfl (bk_load Try.underlying77 rfl infoPl HL.out.r rfl)) rfl ?_
    exact ⟨by rw [HR.out.1, HR.out.2]; rfl, HL.out.b⟩
  have hd3 : decide ((1 : Int) ≤ (n : Int)) = true := decide_eq_true (by omega)
  by_cases h4 : 8 < n
  · have hd4 : decide ((n : Int) ≤ (8 : Int)) = false := decide_eq_false (by omega)
    have HR : Hid (chk e xs = 162 ∧ zer9 = (lkP e xs).toArray) := ⟨chk_n (by omega) (by omega), by unfold lkP; rw [chk_n (by omega) (by omega)]; exact zer9_eq⟩
    have h5 : ¬ (n : Int) ≤ 8 := by omega
    have h6 : (1 : Int) ≤ (n : Int) := by omega
    replace HL : Hid _ := HL
    clear h hlen
    go_enter Try.func41, Try.ntmps41
    go_wp2
    generalize hW : World.alloc (World.alloc (World.alloc w _) _) _ = W3
    replace HL : Hid (LkW w W3 _ e (.slice a n c) (plcs [])) := hW ▸ HL.out
    refine bodyPost_ret (results_cellO Try.results41 _ _ _ ⟨w.heap.size + 1, 0, none⟩ _ _ rfl rfl (bk_load Try.underlying77 rfl infoPl HL.out.r rfl)) rfl ?_
    exact ⟨by rw [HR.out.1, HR.out.2]; rfl, HL.out.b⟩
  have hd4 : decide ((n : Int) ≤ (8 : Int)) = true := decide_eq_true (by omega)
  have h5 : (n : Int) ≤ 8 := by omega
  have h6 : (1 : Int) ≤ (n : Int) := by omega
  have HNO : Hid (∀ x W, Calls Try.prog 45 #[.int .i64 x] W fun r w' => r = .returned (.bool (isN x)) ∧ w' = W) := isnode_c
  have HE : Hid ((1 ≤ e ∧ e ≤ 1099511627776) ∧ (1 ≤ xs.length ∧ xs.length ≤ 8)) := ⟨by omega, by omega⟩
  have HS : Hid (Seg .i64 w a n xs ∧ xs.length = n) := ⟨h, hlen⟩
  replace HL : Hid _ := HL
  clear h hlen
  go_enter Try.func41, Try.ntmps41
  go_wp2
  generalize hW : World.alloc (World.alloc (World.alloc w _) _) _ = W3
  replace HL : Hid (LkW w W3 _ e (.slice a n c) (plcs [])) := hW ▸ HL.out
  clear hW
  obtain ⟨N, hN⟩ : ∃ N, N = w.heap.size := ⟨_, rfl⟩
  rw [← hN] at HL ⊢
  clear hN
  go_loopw [21] (fun i wr => ∃ k : Nat, k ≤ n ∧ i = .int .i64 (k : Int) ∧ Hid (GoodN (xs.take k) ∧ LkW w wr N e (.slice a n c) (plcs (xs.take k)))) (fun i _ => n - (intOf i).toNat)
  case atStart => exact ⟨0, Nat.zero_le _, rfl, ⟨goodN_nil, HL.out⟩⟩
  case round =>
    obtain ⟨k, hk, rfl, hr⟩ := hrel
    by_cases hlt : k < n
    · have hi1 : (k : Int) < n := by omega
      obtain ⟨ba, oa, x, rfl, hx, ca⟩ := seg_at1 (HS.out.1.below hr.out.2.b) hlt
      have HX : Hid (xs[k]? = some x) := hx
      clear hx
      by_cases g1 : x < 1
      · have HR : Hid (chk e xs = 161 ∧ zer9 = (lkP e xs).toArray) := ⟨chk_bad HE.out.1 HE.out.2 HX.out (by omega), by unfold lkP; rw [chk_bad HE.out.1 HE.out.2 HX.out (by omega)]; exact zer9_eq⟩
        have hb1 : isN x = false := isN_no (by omega)
        go_wp2_with (first
        | (go_at_call 45; refine (Calls.mono (HNO.out _ _) ?_); rintro r wq ⟨rfl, hq⟩; obtain rfl := hq.symm; clear hq)
        | (refine wpList_store_bk 77 rfl (.tmp 2) (.tmp 35) rfl infoPl (N + 1) _ zer9 rfl rfl hr.out.2.r rfl rfl (by simp [zer9, Value.oneCell']) ?_; intro w4 k1 k2; have H4 : Hid (Bk 77 w4 (N + 1) zer9 ∧ Below w.heap.size w w4) := ⟨k1, hr.out.2.b.grown k2 hr.out.2.b.size (by rintro q hq; cases hq; rw [hr.out.2.n]; omega)⟩; clear k1 k2))
        refine bodyPost_ret (results_cellO Try.results41 _ _ _ ⟨N + 1, 0, none⟩ _ _ rfl rfl (bk_load Try.underlying77 rfl infoPl H4.out.1 rfl)) rfl ?_
        exact ⟨by rw [HR.out.1, HR.out.2]; rfl, H4.out.2⟩
      by_cases g2 : 8 < x
      · have HR : Hid (chk e xs = 161 ∧ zer9 = (lkP e xs).toArray) := ⟨chk_bad HE.out.1 HE.out.2 HX.out (by omega), by unfold lkP; rw [chk_bad HE.out.1 HE.out.2 HX.out (by omega)]; exact zer9_eq⟩
        have hb2 : isN x = false := isN_no (by omega)
        go_wp2_with (first
        | (go_at_call 45; refine (Calls.mono (HNO.out _ _) ?_); rintro r wq ⟨rfl, hq⟩; obtain rfl := hq.symm; clear hq)
        | (refine wpList_store_bk 77 rfl (.tmp 2) (.tmp 35) rfl infoPl (N + 1) _ zer9 rfl rfl hr.out.2.r rfl rfl (by simp [zer9, Value.oneCell']) ?_; intro w4 k1 k2; have H4 : Hid (Bk 77 w4 (N + 1) zer9 ∧ Below w.heap.size w w4) := ⟨k1, hr.out.2.b.grown k2 hr.out.2.b.size (by rintro q hq; cases hq; rw [hr.out.2.n]; omega)⟩; clear k1 k2))
        refine bodyPost_ret (results_cellO Try.results41 _ _ _ ⟨N + 1, 0, none⟩ _ _ rfl rfl (bk_load Try.underlying77 rfl infoPl H4.out.1 rfl)) rfl ?_
        exact ⟨by rw [HR.out.1, HR.out.2]; rfl, H4.out.2⟩
      obtain ⟨X, rfl⟩ : ∃ X : Nat, x = (X : Int) := ⟨x.toNat, by omega⟩
      have hb2 : isN (X : Int) = true := isN_yes (by omega) (by omega)
      have hX8 : X < 9 := by omega
      by_cases g3 : (X : Int) ∈ xs.take k
      · have HR : Hid (chk e xs = 161 ∧ zer9 = (lkP e xs).toArray) := ⟨chk_bad HE.out.1 HE.out.2 HX.out (fun z => z.2 g3), by unfold lkP; rw [chk_bad HE.out.1 HE.out.2 HX.out (fun z => z.2 g3)]; exact zer9_eq⟩
        obtain ⟨P, hP⟩ : ∃ P, P = pla (xs.take k) (X : Int) + 1 := ⟨_, rfl⟩
        have hcp : wr.cell? ⟨N + 1 + 1, X, none⟩ = some (.int .i64 P) := by
          rw [hr.out.2.p.cell X, List.getElem?_toArray, hP]
          have := plcs_at (xs.take k) (X : Int) (by omega) (by omega)
          rwa [Int.toNat_natCast] at this
        have hp0 : (P != 0) = true := by
          have := mt (pla_neg (xs := xs.take k) (n := (X : Int))).1 (fun z => z g3)
          simp; omega
        clear g3 hP
        go_wp2_with (first
        | (go_at_call 45; refine (Calls.mono (HNO.out _ _) ?_); rintro r wq ⟨rfl, hq⟩; obtain rfl := hq.symm; clear hq)
        | (refine wpList_store_bk 77 rfl (.tmp 2) (.tmp 35) rfl infoPl (N + 1) _ zer9 rfl rfl hr.out.2.r rfl rfl (by simp [zer9, Value.oneCell']) ?_; intro w4 k1 k2; have H4 : Hid (Bk 77 w4 (N + 1) zer9 ∧ Below w.heap.size w w4) := ⟨k1, hr.out.2.b.grown k2 hr.out.2.b.size (by rintro q hq; cases hq; rw [hr.out.2.n]; omega)⟩; clear k1 k2))
        refine bodyPost_ret (results_cellO Try.results41 _ _ _ ⟨N + 1, 0, none⟩ _ _ rfl rfl (bk_load Try.underlying77 rfl infoPl H4.out.1 rfl)) rfl ?_
        exact ⟨by rw [HR.out.1, HR.out.2]; rfl, H4.out.2⟩
      · have hcp : wr.cell? ⟨N + 1 + 1, X, none⟩ = some (.int .i64 0) := by
          have := plcs_at (xs.take k) (X : Int) (by omega) (by omega)
          rw [Int.toNat_natCast, pla_no g3] at this
          rw [hr.out.2.p.cell X, List.getElem?_toArray, this]
          rfl
        have hfz : wr.frozen? ⟨N + 1 + 1, X, none⟩ = false := frozen_of_row _ _ _ _ _ hr.out.2.p
        have HK : Hid (GoodN (xs.take (k + 1)) ∧ LkW w (wr.setCell ⟨N + 1 + 1, X, none⟩ (.int .i64 ((k : Int) + 1))) N e (.slice (some ⟨ba, oa, none⟩) n c) (plcs (xs.take (k + 1)))) := ⟨(goodN_step HX.out).2 ⟨hr.out.1, by omega, g3⟩, hr.out.2.set HX.out (by omega) g3⟩
        clear g3
        go_wp2_with (go_at_call 45; refine (Calls.mono (HNO.out _ _) ?_); rintro r wq ⟨rfl, hq⟩; obtain rfl := hq.symm; clear hq)
        go_roundw
        case rel => exact ⟨k + 1, by omega, by go_num, HK.out.1, HK.out.2⟩
        case measure => simp [intOf]; omega
    · obtain rfl : k = n := by omega
      have HT : Hid (chk e xs = 0 ∧ xs.take k = xs) := by
        have e1 : xs.take k = xs := List.take_of_length_le (Nat.le_of_eq HS.out.2)
        exact ⟨chk_ok.2 ⟨HE.out.1, HE.out.2, by have := hr.out.1; rwa [e1] at this⟩, e1⟩
      have HR : Hid ((lkP e xs).toArray = (plcs (xs.take k)).toArray) := by show _ = _; unfold lkP; rw [if_pos HT.out.1, HT.out.2]
      have hi1 : ¬ (k : Int) < k := by omega
      go_wp2_with (first
        | (refine wpList_load_bk 77 rfl (.tmp 4) rfl Try.underlying77 rfl infoPl (N + 1 + 1) _ rfl hr.out.2.p (by simp [plcs_length]) ?_)
        | (refine wpList_store_bk 77 rfl (.tmp 2) (.tmp 41) rfl infoPl (N + 1) _ _ rfl rfl hr.out.2.r rfl (by simp [plcs_length]) (by simp [plcs]; intro _ _; rfl) ?_; intro w4 k1 k2; have H4 : Hid (Bk 77 w4 (N + 1) (plcs (xs.take k)).toArray ∧ Below w.heap.size w w4) := ⟨k1, hr.out.2.b.grown k2 hr.out.2.b.size (by rintro q hq; cases hq; rw [hr.out.2.n]; omega)⟩; clear k1 k2))
      refine bodyPost_ret (results_cellO Try.results41 _ _ _ ⟨N + 1, 0, none⟩ _ _ rfl rfl (bk_load Try.underlying77 rfl infoPl H4.out.1 (by simp [plcs_length]))) rfl ?_
      exact ⟨by rw [HT.out.1, HR.out]; rfl, H4.out.2⟩
end Go.Proofs.Ytekefbbjocekiab
