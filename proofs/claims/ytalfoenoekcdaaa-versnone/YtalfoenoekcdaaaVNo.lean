/-
  What a book answers that no call made. No condition.
-/
import Derived.Test.YtalfoenoekcdaaaVNw
namespace Go.Proofs.Ytalfoenoekcdaaa
open Go.RowKit
set_option linter.unusedVariables false

/-- A book that no call made: nil, or a zero value. -/
def UnB (w : World) (p : Value) : Prop := p = .pointer none ∨ ∃ Z, p = .pointer (some ⟨Z, 0, none⟩) ∧ w.cell? ⟨Z, 0, none⟩ = some (.pointer none) ∧ Z < w.heap.size
theorem UnB.below {w w' : World} {p : Value} (h : UnB w p) (hb : Below w.heap.size w w') : UnB w' p := by
  rcases h with h | ⟨Z, h1, h2, h3⟩
  · exact .inl h
  · exact .inr ⟨Z, h1, (hb.cell (p := ⟨Z, 0, none⟩) h3).trans h2, Nat.lt_of_lt_of_le h3 hb.size⟩
theorem UnB.ptr {w : World} {p : Value} (h : UnB w p) : ∃ q, p = .pointer q := by
  rcases h with rfl | ⟨Z, rfl, _⟩ <;> exact ⟨_, rfl⟩
theorem bmade_no (p : Value) (w : World) (h : UnB w p) : Calls Try.prog 25 #[p] w fun r w' => r = .returned (.bool false) ∧ w' = w := by
  rcases h with rfl | ⟨Z, rfl, hc, hz⟩
  · go_enter Try.func25, Try.ntmps25
    go_wp2
    go_ret
    exact ⟨rfl, rfl⟩
  · clear hz
    go_enter Try.func25, Try.ntmps25
    go_wp2
    go_ret
    exact ⟨rfl, rfl⟩
theorem has_no (p : Value) (n : Int) (w : World) (h : UnB w p) : Calls Try.prog 28 #[p, .int .i64 n] w fun r w' => r = .returned (.int .i64 2) ∧ w' = w := by
  have HM : Hid _ := bmade_no p w h
  clear h
  go_enter Try.func28, Try.ntmps28
  go_wp2_with (go_at_call 25; go_must (refine (Calls.mono HM.out ?_)); rintro r wq ⟨rfl, hq⟩; obtain rfl := hq.symm; clear hq)
  go_ret
  exact ⟨rfl, rfl⟩
theorem commit_no (p : Value) (n : Int) (w : World) (h : UnB w p) : Calls Try.prog 9 #[p, .int .i64 n] w fun r w' => r = .returned (.int .i64 2) ∧ w' = w := by
  have HM : Hid _ := bmade_no p w h
  clear h
  go_enter Try.func9, Try.ntmps9
  go_wp2_with (go_at_call 25; go_must (refine (Calls.mono HM.out ?_)); rintro r wq ⟨rfl, hq⟩; obtain rfl := hq.symm; clear hq)
  go_ret
  exact ⟨rfl, rfl⟩
theorem applied_no (p : Value) (w : World) (h : UnB w p) : Calls Try.prog 16 #[p] w fun r w' => r = .returned (.int .i64 0) ∧ w' = w := by
  have HM : Hid _ := bmade_no p w h
  clear h
  go_enter Try.func16, Try.ntmps16
  go_wp2_with (go_at_call 25; go_must (refine (Calls.mono HM.out ?_)); rintro r wq ⟨rfl, hq⟩; obtain rfl := hq.symm; clear hq)
  go_ret
  exact ⟨rfl, rfl⟩
theorem committed_no (p : Value) (w : World) (h : UnB w p) : Calls Try.prog 17 #[p] w fun r w' => r = .returned (.int .i64 0) ∧ w' = w := by
  have HM : Hid _ := bmade_no p w h
  clear h
  go_enter Try.func17, Try.ntmps17
  go_wp2_with (go_at_call 25; go_must (refine (Calls.mono HM.out ?_)); rintro r wq ⟨rfl, hq⟩; obtain rfl := hq.symm; clear hq)
  go_ret
  exact ⟨rfl, rfl⟩
theorem store_no (p : Value) (w : World) (h : UnB w p) : Calls Try.prog 18 #[p] w fun r w' => r = .returned (.pointer none) ∧ w' = w := by
  have HM : Hid _ := bmade_no p w h
  clear h
  go_enter Try.func18, Try.ntmps18
  go_wp2_with (go_at_call 25; go_must (refine (Calls.mono HM.out ?_)); rintro r wq ⟨rfl, hq⟩; obtain rfl := hq.symm; clear hq)
  go_ret
  exact ⟨rfl, rfl⟩
theorem base_no (p : Value) (w : World) (h : UnB w p) : Calls Try.prog 20 #[p] w fun r w' => r = .returned (.pointer none) ∧ w' = w := by
  have HM : Hid _ := bmade_no p w h
  clear h
  go_enter Try.func20, Try.ntmps20
  go_wp2_with (go_at_call 25; go_must (refine (Calls.mono HM.out ?_)); rintro r wq ⟨rfl, hq⟩; obtain rfl := hq.symm; clear hq)
  go_ret
  exact ⟨rfl, rfl⟩
theorem clean_no (p : Value) (key : ByteArray) (w : World) (h : UnB w p) : Calls Try.prog 15 #[p, .string key] w fun r w' => r = .returned (.bool false) ∧ w' = w := by
  have HM : Hid _ := bmade_no p w h
  clear h
  go_enter Try.func15, Try.ntmps15
  go_wp2_with (go_at_call 25; go_must (refine (Calls.mono HM.out ?_)); rintro r wq ⟨rfl, hq⟩; obtain rfl := hq.symm; clear hq)
  go_ret
  exact ⟨rfl, rfl⟩
theorem from_no (p : Value) (n : Int) (w : World) (h : UnB w p) : Calls Try.prog 11 #[p, .int .i64 n] w fun r w' => r = .returned (.tuple #[.slice none 0 0, .int .i64 2]) ∧ w' = w := by
  have HM : Hid _ := has_no p n w h
  clear h
  go_enter Try.func11, Try.ntmps11
  go_wp2_with (go_at_call 28; go_must (refine (Calls.mono HM.out ?_)); rintro r wq ⟨rfl, hq⟩; obtain rfl := hq.symm; clear hq)
  go_ret2
  exact ⟨rfl, rfl⟩
def zRes : Array Value := #[.int .i64 0, .int .i64 0]
theorem zResZ (w : World) : (zeroValue 41).run Try.prog w = .ok (.agg zRes) w := by
  have h : (Try.prog.info? 41).map (fun i => (i.zero, i.size)) = some (some (.agg zRes), 2) := by kernel_rfl
  exact (zero_of_info h).1 w
def zRowV : Array Value := #[.string .empty, .string .empty, .int .i64 0]
theorem zRowZ (w : World) : (zeroValue 48).run Try.prog w = .ok (.agg zRowV) w := by
  have h : (Try.prog.info? 48).map (fun i => (i.zero, i.size)) = some (some (.agg zRowV), 3) := by kernel_rfl
  exact (zero_of_info h).1 w
theorem infoRes2 : (Try.prog.info? 41).map (·.size) = some 2 := by kernel_rfl
theorem infoRow3 : (Try.prog.info? 48).map (·.size) = some 3 := by kernel_rfl
theorem results_cellM {fn : Func} {p q r : Tmp} {ty : TypeId} (h : fn.results = #[.tmp q, .cell p ty, .tmp r]) (tmps : Array Value) (P : Program) (w : World) (ad : Addr) (v v2 v3 : Value)
    (hp : tmps.getD p undef = .pointer (some ad)) (h2 : tmps.getD q undef = v2) (h3 : tmps.getD r undef = v3) (hl : (loadVar ty ad).run P w = .ok v w) : (results fn tmps).run P w = .ok (.tuple #[v2, v, v3]) w := by
  have hp' : tmps[p]?.getD undef = .pointer (some ad) := by simpa using hp
  have h2' : tmps[q]?.getD undef = v2 := by simpa using h2
  have h3' : tmps[r]?.getD undef = v3 := by simpa using h3
  simp only [results, h]
  simp [hp', h2', h3', asAddr, hl]
set_option maxRecDepth 20000 in
theorem get_no (p : Value) (key : ByteArray) (w : World) (h : UnB w p) : Calls Try.prog 13 #[p, .string key] w fun r w' => r = .returned (.tuple #[.agg zRowV, .bool false]) ∧ Below w.heap.size w w' := by
  obtain ⟨q, rfl⟩ := h.ptr
  have hz := zRowZ
  have hb0 : Below w.heap.size w (w.alloc (.cells zRowV 48)) := (Below.refl _ _).alloc (Nat.le_refl _) _
  have HM : Hid _ := bmade_no _ (w.alloc (.cells zRowV 48)) (h.below hb0)
  have HB : Hid (Bk 48 (w.alloc (.cells zRowV 48)) w.heap.size zRowV ∧ Below w.heap.size w (w.alloc (.cells zRowV 48))) := ⟨(blk_new w _ _).1, hb0⟩
  clear h hb0
  go_enter Try.func13, Try.ntmps13
  go_wp2_with (first
    | (go_at_call 25; go_must (refine (Calls.mono HM.out ?_)); rintro r wq ⟨rfl, hq⟩; obtain rfl := hq.symm; clear hq)
    | (refine wpList_store_bk 48 rfl _ _ rfl infoRow3 w.heap.size zRowV zRowV rfl rfl HB.out.1 rfl rfl (by decide +kernel) ?_; intro w2 s1 s2; have H2 : Hid (Bk 48 w2 w.heap.size zRowV ∧ Below w.heap.size w w2) := ⟨s1, HB.out.2.grown s2 (by rw [World.size_alloc]; omega) (fun k e => by cases e; exact Nat.le_refl _)⟩; clear s1 s2))
  refine bodyPost_ret (results_cell2 Try.results13 _ _ _ ⟨w.heap.size, 0, none⟩ (.agg zRowV) (.bool false) rfl rfl (bk_load (T := 48) Try.underlying48 rfl infoRow3 H2.out.1 rfl)) rfl ?_
  exact ⟨rfl, H2.out.2⟩
set_option maxRecDepth 20000 in
theorem at_no (p : Value) (key : ByteArray) (n : Int) (w : World) (h : UnB w p) : Calls Try.prog 12 #[p, .string key, .int .i64 n] w fun r w' => r = .returned (.tuple #[.agg zRowV, .bool false, .int .i64 2]) ∧ Below w.heap.size w w' := by
  obtain ⟨q, rfl⟩ := h.ptr
  have hz := zRowZ
  have hb0 : Below w.heap.size w (w.alloc (.cells zRowV 48)) := (Below.refl _ _).alloc (Nat.le_refl _) _
  have HM : Hid _ := has_no _ n (w.alloc (.cells zRowV 48)) (h.below hb0)
  have HB : Hid (Bk 48 (w.alloc (.cells zRowV 48)) w.heap.size zRowV ∧ Below w.heap.size w (w.alloc (.cells zRowV 48))) := ⟨(blk_new w _ _).1, hb0⟩
  clear h hb0
  go_enter Try.func12, Try.ntmps12
  go_wp2_with (first
    | (go_at_call 28; go_must (refine (Calls.mono HM.out ?_)); rintro r wq ⟨rfl, hq⟩; obtain rfl := hq.symm; clear hq)
    | (refine wpList_store_bk 48 rfl _ _ rfl infoRow3 w.heap.size zRowV zRowV rfl rfl HB.out.1 rfl rfl (by decide +kernel) ?_; intro w2 s1 s2; have H2 : Hid (Bk 48 w2 w.heap.size zRowV ∧ Below w.heap.size w w2) := ⟨s1, HB.out.2.grown s2 (by rw [World.size_alloc]; omega) (fun k e => by cases e; exact Nat.le_refl _)⟩; clear s1 s2))
  refine bodyPost_ret (results_cell3 Try.results12 _ _ _ ⟨w.heap.size, 0, none⟩ (.agg zRowV) (.bool false) (.int .i64 2) rfl rfl rfl (bk_load (T := 48) Try.underlying48 rfl infoRow3 H2.out.1 rfl)) rfl ?_
  exact ⟨rfl, H2.out.2⟩
set_option maxRecDepth 20000 in
theorem last_no (p : Value) (n : Int) (w : World) (h : UnB w p) : Calls Try.prog 14 #[p, .int .i64 n] w fun r w' => r = .returned (.tuple #[.int .i64 0, .agg zRes, .int .i64 0]) ∧ Below w.heap.size w w' := by
  obtain ⟨q, rfl⟩ := h.ptr
  have hz := zResZ
  have hb0 : Below w.heap.size w (w.alloc (.cells zRes 41)) := (Below.refl _ _).alloc (Nat.le_refl _) _
  have HM : Hid _ := bmade_no _ (w.alloc (.cells zRes 41)) (h.below hb0)
  have HB : Hid (Bk 41 (w.alloc (.cells zRes 41)) w.heap.size zRes ∧ Below w.heap.size w (w.alloc (.cells zRes 41))) := ⟨(blk_new w _ _).1, hb0⟩
  clear h hb0
  go_enter Try.func14, Try.ntmps14
  go_wp2_with (first
    | (go_at_call 25; go_must (refine (Calls.mono HM.out ?_)); rintro r wq ⟨rfl, hq⟩; obtain rfl := hq.symm; clear hq)
    | (refine wpList_store_bk 41 rfl _ _ rfl infoRes2 w.heap.size zRes zRes rfl rfl HB.out.1 rfl rfl (by decide +kernel) ?_; intro w2 s1 s2; have H2 : Hid (Bk 41 w2 w.heap.size zRes ∧ Below w.heap.size w w2) := ⟨s1, HB.out.2.grown s2 (by rw [World.size_alloc]; omega) (fun k e => by cases e; exact Nat.le_refl _)⟩; clear s1 s2))
  refine bodyPost_ret (results_cellM Try.results14 _ _ _ ⟨w.heap.size, 0, none⟩ (.agg zRes) (.int .i64 0) (.int .i64 0) rfl rfl rfl (bk_load (T := 41) Try.underlying41 rfl infoRes2 H2.out.1 rfl)) rfl ?_
  exact ⟨rfl, H2.out.2⟩
set_option maxRecDepth 20000 in
theorem apply_no (p : Value) (cs : Array Value) (w : World) (h : UnB w p) : Calls Try.prog 10 #[p, .agg cs] w fun r w' => r = .returned (.tuple #[.agg zRes, .int .i64 2]) ∧ Below w.heap.size w w' := by
  obtain ⟨q, rfl⟩ := h.ptr
  have hz := zResZ
  have hb1 : Below w.heap.size w (w.alloc (.cells cs 34)) := (Below.refl _ _).alloc (Nat.le_refl _) _
  have hb0 : Below w.heap.size w ((w.alloc (.cells cs 34)).alloc (.cells zRes 41)) := hb1.alloc hb1.size _
  have HM : Hid _ := bmade_no _ ((w.alloc (.cells cs 34)).alloc (.cells zRes 41)) (h.below hb0)
  have HB : Hid (Bk 41 ((w.alloc (.cells cs 34)).alloc (.cells zRes 41)) (w.heap.size + 1) zRes ∧ Below w.heap.size w ((w.alloc (.cells cs 34)).alloc (.cells zRes 41))) := by
    refine ⟨?_, hb0⟩
    have := (blk_new (w.alloc (.cells cs 34)) 41 zRes).1
    rwa [World.size_alloc] at this
  clear h hb0 hb1
  go_enter Try.func10, Try.ntmps10
  go_wp2_with (first
    | (go_at_call 25; go_must (refine (Calls.mono HM.out ?_)); rintro r wq ⟨rfl, hq⟩; obtain rfl := hq.symm; clear hq)
    | (refine wpList_store_bk 41 rfl _ _ rfl infoRes2 (w.heap.size + 1) zRes zRes rfl rfl HB.out.1 rfl rfl (by decide +kernel) ?_; intro w2 s1 s2; have H2 : Hid (Bk 41 w2 (w.heap.size + 1) zRes ∧ Below w.heap.size w w2) := ⟨s1, HB.out.2.grown s2 (by rw [World.size_alloc, World.size_alloc]; omega) (fun k e => by cases e; omega)⟩; clear s1 s2))
  refine bodyPost_ret (results_cell2 Try.results10 _ _ _ ⟨w.heap.size + 1, 0, none⟩ (.agg zRes) (.int .i64 2) rfl rfl (bk_load (T := 41) Try.underlying41 rfl infoRes2 H2.out.1 rfl)) rfl ?_
  exact ⟨rfl, H2.out.2⟩
end Go.Proofs.Ytalfoenoekcdaaa
