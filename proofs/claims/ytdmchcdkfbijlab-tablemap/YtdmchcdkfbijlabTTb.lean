/-
  A table in memory, as the list of its rows: what New, Len, Get and Delete answer, and what they do. Condition: no number outgrows its kind.
-/
import Derived.Test.YtdmchcdkfbijlabTWo
import Derived.Test.YtdmchcdkfbijlabTFd
import Derived.Test.YtdmchcdkfbijlabTCk
namespace Go.Proofs.Ytdmchcdkfbijlab
open Go.RowKit
set_option linter.unusedVariables false

def OkR (xs : List Rw) : Prop := ∀ x ∈ xs, rowE x = 0
theorem rowE_sz {x : Rw} (h : rowE x = 0) : sz x ≤ 66560 := by
  unfold rowE at h
  unfold sz
  split at h
  · cases h
  · split at h
    · cases h
    · omega
theorem okR_szs {xs : List Rw} (h : OkR xs) : szs xs ≤ 66560 * xs.length := by
  induction xs with
  | nil => simp [szs]
  | cons x l ih =>
    have h1 := rowE_sz (h x (by simp))
    have h2 := ih (fun y hy => h y (by simp [hy]))
    rw [szs_cons, List.length_cons]; omega
theorem okR_sm {xs : List Rw} (h : OkR xs) (hl : xs.length ≤ 2000000000) : Sm xs := by
  have := okR_szs h
  unfold Sm; omega
theorem okR_put {x : Rw} {xs : List Rw} (h : OkR xs) (hx : rowE x = 0) : OkR (putR x xs) := fun y hy => by
  rcases mem_putR hy with rfl | hy
  · exact hx
  · exact h y hy
theorem okR_del {k : ByteArray} {xs : List Rw} (h : OkR xs) : OkR (delR k xs) := fun y hy => h y (List.mem_filter.1 hy).1
/-- A table that holds these rows; its tree's blocks are such as o says. -/
def Tbl (o : Nat → Prop) (w : World) (g : Nat) (xs : List Rw) : Prop := ∃ p h, Bk 50 w g #[.bool true, .pointer p] ∧ Tr o w p h xs ∧ Rises xs ∧ OkR xs ∧ xs.length ≤ 1048576
theorem Tbl.gb {o : Nat → Prop} {w w' : World} {g : Nat} {xs : List Rw} {row : Option Nat} (h : Tbl o w g xs) (hg : w.grownBy w' row) (h1 : row ≠ some g) (h2 : ∀ n, row = some n → ¬ o n) : Tbl o w' g xs := by
  obtain ⟨p, hh, a, b, c⟩ := h
  exact ⟨p, hh, a.grew hg h1, b.gbr hg h2, c⟩
theorem Tbl.gb0 {o : Nat → Prop} {w w' : World} {g : Nat} {xs : List Rw} (h : Tbl o w g xs) (hg : w.grownBy w' none) : Tbl o w' g xs := h.gb hg (by simp) (fun n e => by cases e)
theorem Tbl.weak {o o' : Nat → Prop} {w : World} {g : Nat} {xs : List Rw} (h : Tbl o w g xs) (hw : ∀ b, b < w.heap.size → o b → o' b) : Tbl o' w g xs := by
  obtain ⟨p, hh, a, b, c⟩ := h
  exact ⟨p, hh, a, b.weak hw, c⟩
theorem Tbl.lt {o : Nat → Prop} {w : World} {g : Nat} {xs : List Rw} (h : Tbl o w g xs) : g < w.heap.size := by
  obtain ⟨p, hh, a, _⟩ := h
  exact lt_of_block a
theorem new_c (w : World) : Calls Try.prog 5 #[] w fun e w' => e = .returned (.pointer (some ⟨w.heap.size, 0, none⟩)) ∧ Bk 50 w' w.heap.size #[.bool true, .pointer none] ∧ w.grownBy w' none := by
  go_enter Try.func5, Try.ntmps5
  go_wp2
  go_ret
  exact ⟨rfl, blk_new w _ _⟩
theorem tbl_none (o : Nat → Prop) {w : World} {g : Nat} (h : Bk 50 w g #[.bool true, .pointer none]) : Tbl o w g [] := ⟨none, 0, h, tr_nil o w, trivial, fun x hx => by simp at hx, by simp⟩
theorem isMade_c (g : Nat) (p : Option Addr) (w : World) (h : Bk 50 w g #[.bool true, .pointer p]) : Calls Try.prog 19 #[.pointer (some ⟨g, 0, none⟩)] w fun e w' => e = .returned (.bool true) ∧ w' = w := by
  have c : w.cell? ⟨g, 0, none⟩ = some (.bool true) := h.cell 0
  clear h
  go_enter Try.func19, Try.ntmps19
  go_wp2
  go_ret
  exact ⟨rfl, rfl⟩
theorem top_c (g : Nat) (p : Option Addr) (w : World) (h : Bk 50 w g #[.bool true, .pointer p]) : Calls Try.prog 24 #[.pointer (some ⟨g, 0, none⟩)] w fun e w' => e = .returned (.pointer p) ∧ w' = w := by
  have c : w.cell? ⟨g, 1, none⟩ = some (.pointer p) := h.cell 1
  clear h
  go_enter Try.func24, Try.ntmps24
  go_wp2
  go_ret
  exact ⟨rfl, rfl⟩
theorem len_c (o : Nat → Prop) (g : Nat) (xs : List Rw) (w : World) (h : Tbl o w g xs) : Calls Try.prog 7 #[.pointer (some ⟨g, 0, none⟩)] w fun e w' => e = .returned (.int .i64 (xs.length : Nat)) ∧ w' = w := by
  obtain ⟨p, hh, hb, ht, _⟩ := h
  have HT : Hid _ := top_c g p w hb
  have HC : Hid _ := count_c o p hh xs w ht
  clear hb ht
  go_enter Try.func7, Try.ntmps7
  go_wp2_with (first
    | (go_at_call 24; refine (Calls.mono HT.out ?_); rintro e wq ⟨rfl, rfl⟩)
    | (go_at_call 21; refine (Calls.mono HC.out ?_); rintro e wq ⟨rfl, rfl⟩))
  go_ret
  exact ⟨rfl, rfl⟩
theorem gb_set (w : World) (g i : Nat) (v : Value) : w.grownBy (w.setCell ⟨g, i, none⟩ v) (some g) := by
  refine ⟨rfl, rfl, rfl, ?_, fun k _ hk => ?_⟩
  · simp [World.setCell]
  · show (w.heap.modify g _)[k]? = _
    rw [Array.getElem?_modify, if_neg (fun e => hk (by rw [e]))]
def rvR : Option Rw → Array Value
  | none => #[.string .empty, .string .empty, .int .i64 0]
  | some x => ivs x
def zRow : Array Value := #[.string .empty, .string .empty, .int .i64 0]
theorem zR (w : World) : (zeroValue 28).run Try.prog w = .ok (.agg zRow) w := by
  have h : (Try.prog.info? 28).map (fun i => (i.zero, i.size)) = some (some (.agg zRow), 3) := by kernel_rfl
  exact (zero_of_info h).1 w
theorem infoRow : (Try.prog.info? 28).map (·.size) = some 3 := by kernel_rfl
theorem zRow_one : zRow.all (·.oneCell') = true := by decide +kernel
set_option maxRecDepth 20000 in
set_option maxHeartbeats 1000000 in
theorem get_c (o : Nat → Prop) (k : ByteArray) (g : Nat) (xs : List Rw) (w : World) (h : Tbl o w g xs) : Calls Try.prog 13 #[.pointer (some ⟨g, 0, none⟩), .string k] w fun e w' => e = .returned (.tuple #[.agg (rvR (getR k xs)), .bool (getR k xs).isSome]) ∧ w.grownBy w' none := by
  obtain ⟨p, hh, hb, ht, hR, _⟩ := h
  have hz := zR
  have HZ : Hid (Bk 28 (w.alloc (.cells zRow 28)) w.heap.size zRow ∧ w.grownBy (w.alloc (.cells zRow 28)) none) := blk_new w _ _
  have HT : Hid _ := top_c g p (w.alloc (.cells zRow 28)) (hb.grew HZ.out.2 (by simp))
  have HF : Hid _ := find_c o k p hh xs (w.alloc (.cells zRow 28)) (ht.gb HZ.out.2) hR
  clear hb ht hR
  cases hq : getR k xs with
  | none =>
    rw [hq] at HF
    clear hq
    go_enter Try.func13, Try.ntmps13
    go_wp2_with (first
      | (go_at_call 24; refine (Calls.mono HT.out ?_); rintro e wq ⟨rfl, rfl⟩)
      | (go_at_call 22; refine (Calls.mono HF.out ?_); rintro e w1 ⟨q, rfl, hf, hg⟩; obtain rfl : q = none := hf; have H1 : Hid (Bk 28 w1 w.heap.size zRow ∧ w.grownBy w1 none) := ⟨HZ.out.1.grew hg (by simp), gb_trans HZ.out.2 hg⟩; clear hg)
      | (refine wpList_store_bk 28 rfl (.tmp 4) (.tmp 13) rfl infoRow w.heap.size zRow zRow rfl rfl H1.out.1 rfl rfl zRow_one ?_; intro w2 s1 s2; have H2 : Hid (Bk 28 w2 w.heap.size zRow ∧ w.grownBy w2 none) := ⟨s1, gb_newer H1.out.2 s2 (Nat.le_refl _)⟩; clear s1 s2))
    refine bodyPost_ret (results_cell2 Try.results13 _ _ _ ⟨w.heap.size, 0, none⟩ (.agg zRow) (.bool false) rfl rfl (bk_load (T := 28) Try.underlying28 rfl infoRow H2.out.1 rfl)) rfl ?_
    exact ⟨rfl, H2.out.2⟩
  | some y =>
    rw [hq] at HF
    clear hq
    go_enter Try.func13, Try.ntmps13
    go_wp2_with (first
      | (go_at_call 24; refine (Calls.mono HT.out ?_); rintro e wq ⟨rfl, rfl⟩)
      | (go_at_call 22; refine (Calls.mono HF.out ?_); rintro e w1 ⟨q, rfl, ⟨b, pl, pr, h5, n5, z5, rfl, hb5⟩, hg⟩; have H1 : Hid (Bk 28 w1 w.heap.size zRow ∧ w.grownBy w1 none) := ⟨HZ.out.1.grew hg (by simp), gb_trans HZ.out.2 hg⟩; have hrg := nc_range hb5; clear hb5 hg)
      | (refine wpList_load_mid rfl 52 (.tmp 16) rfl b 0 rfl [.string y.1, .string y.2.1, .int .i64 y.2.2] _ hrg Try.underlying52 rfl (by kernel_rfl) ?_)
      | (refine wpList_store_bk 28 rfl (.tmp 4) (.tmp 17) rfl infoRow w.heap.size zRow (ivs y) rfl rfl H1.out.1 rfl rfl (ivs_one y) ?_; intro w2 s1 s2; have H2 : Hid (Bk 28 w2 w.heap.size (ivs y) ∧ w.grownBy w2 none) := ⟨s1, gb_newer H1.out.2 s2 (Nat.le_refl _)⟩; clear s1 s2))
    refine bodyPost_ret (results_cell2 Try.results13 _ _ _ ⟨w.heap.size, 0, none⟩ (.agg (ivs y)) (.bool true) rfl rfl (bk_load (T := 28) Try.underlying28 rfl infoRow H2.out.1 rfl)) rfl ?_
    exact ⟨rfl, H2.out.2⟩
set_option maxRecDepth 20000 in
set_option maxHeartbeats 1000000 in
theorem delete_c (o : Nat → Prop) (k : ByteArray) (g : Nat) (xs : List Rw) (w : World) (ob : ∀ b, w.heap.size ≤ b → o b) (og : ¬ o g) (h : Tbl o w g xs) : Calls Try.prog 17 #[.pointer (some ⟨g, 0, none⟩), .string k] w fun e w' => e = .returned (.bool (getR k xs).isSome) ∧ Tbl o w' g (delR k xs) ∧ w.grownBy w' (some g) := by
  have HTB : Hid (Tbl o w g xs) := h
  obtain ⟨p, hh, hb, ht, hR, hO, hL⟩ := h
  have HT : Hid _ := top_c g p w hb
  have HF : Hid _ := find_c o k p hh xs w ht hR
  have HB : Hid (Bk 50 w g #[.bool true, .pointer p]) := hb
  have HWo : Hid (∀ W, w.grownBy W none → Calls Try.prog 31 #[.pointer p, .string k] W (TR o W (delR k xs))) := fun W hg => without_t o k p hh xs W (fun b hb => ob b (Nat.le_trans hg.size hb)) (ht.gb hg) hR (okR_sm hO (by omega))
  have HP : Hid (Rises (delR k xs) ∧ OkR (delR k xs) ∧ (delR k xs).length ≤ 1048576) := ⟨rises_del hR, okR_del hO, Nat.le_trans (len_del k xs) hL⟩
  have HOG : Hid (¬ o g) := og
  cases hq : getR k xs with
  | none =>
    rw [hq] at HF
    have HD : Hid (delR k xs = xs) := del_none hq
    clear hq hb ht hR hO hL ob og
    go_enter Try.func17, Try.ntmps17
    go_wp2_with (first
      | (go_at_call 24; refine (Calls.mono HT.out ?_); rintro e wq ⟨rfl, rfl⟩)
      | (go_at_call 22; refine (Calls.mono HF.out ?_); rintro e w1 ⟨q, rfl, hf, hg⟩; obtain rfl : q = none := hf; have H1 : Hid (_) := hg; clear hg))
    go_ret
    refine ⟨rfl, ?_, gb_wide H1.out _⟩
    rw [HD.out]
    exact HTB.out.gb0 H1.out
  | some y =>
    rw [hq] at HF
    clear hq hb ht hR hO hL ob og
    go_enter Try.func17, Try.ntmps17
    go_wp2_with (first
      | (go_at_call 24; refine (Calls.mono HT.out ?_); rintro e wq ⟨rfl, rfl⟩)
      | (go_at_call 22; refine (Calls.mono HF.out ?_); rintro e w1 ⟨q, rfl, ⟨b, pl, pr, h5, n5, z5, rfl, hb5⟩, hg⟩; have H1 : Hid (_) := hg; have kc : w1.cell? ⟨g, 1, none⟩ = some (.pointer p) := (HB.out.grew hg (by simp)).cell 1; clear hb5 hg)
      | (go_at_call 31; refine (Calls.mono (HWo.out _ H1.out) ?_); rintro e w2 ⟨q2, h2, rfl, ht2, hg2⟩; have H2 : Hid (Tr o w2 q2 h2 (delR k xs) ∧ w1.grownBy w2 none) := ⟨ht2, hg2⟩; have kc2 : w2.cell? ⟨g, 1, none⟩ = some (.pointer p) := ((HB.out.grew H1.out (by simp)).grew hg2 (by simp)).cell 1; have kf2 : w2.frozen? ⟨g, 1, none⟩ = false := frozen_of_row _ _ _ _ _ ((HB.out.grew H1.out (by simp)).grew hg2 (by simp)); clear ht2 hg2))
    go_ret
    have hB2 : Bk 50 w2 g #[.bool true, .pointer p] := (HB.out.grew H1.out (by simp)).grew H2.out.2 (by simp)
    refine ⟨rfl, ⟨q2, h2, hB2.set 1 (.pointer q2), H2.out.1.gbr (gb_set _ _ _ _) (fun n e => by cases e; exact HOG.out), HP.out⟩, ?_⟩
    exact gb_trans (gb_wide (gb_trans H1.out H2.out.2) _) (gb_set _ _ _ _)
end Go.Proofs.Ytdmchcdkfbijlab
