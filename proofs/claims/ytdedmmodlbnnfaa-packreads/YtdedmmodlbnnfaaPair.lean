/-
  A pack Reader and the document's, over the same bytes, at the same place, with the same error: what each of their methods answers is the same, and they stand alike behind it. Condition: their bytes can be read, and their length is one that a machine has.
-/
import Derived.Test.YtdedmmodlbnnfaaXRow
import Derived.Test.YtdedmmodlbnnfaaXFl
import Derived.Test.YtdedmmodlbnnfaaPFa
import Derived.Test.YtdedmmodlbnnfaaPText
import Derived.Test.YtdedmmodlbnnfaaGr
namespace Go.Proofs.Ytdedmmodlbnnfaa
open Go.RowKit
set_option linter.unusedVariables false

theorem RS.gr {G : Nat → Prop} {w w' g a len cap xs e p} (h : RS w g a len cap xs e p) (hg : Gr G w w') (h1 : ¬ G g) (h2 : ∀ k, G k → Off a k) : RS w' g a len cap xs e p :=
  ⟨(hg.block g (lt_of_block h.rdr) h1).trans h.rdr, h.seg.gr hg h2, h.bytes, h.off, h.le, h.lc, h.lm, h.cm, h.nz⟩
theorem XS.gr {G : Nat → Prop} {w w' g a len cap xs e p} (h : XS w g a len cap xs e p) (hg : Gr G w w') (h1 : ¬ G g) (h2 : len = 0 ∨ ∀ k, G k → Off a k) : XS w' g a len cap xs e p :=
  ⟨(hg.block g (lt_of_block h.rdr) h1).trans h.rdr, (by rcases h2 with h2 | h2; exact ⟨h.seg.1, .inl h2⟩; exact h.seg.gr hg h2), h.bytes, h.off, h.le, h.lc, h.lm, h.cm⟩
/-- A method of the pack Reader answers v and comes to (e', p'). -/
def RDoes (f : FuncId) (args : List Value) (xs : List Int) (e : Int) (p : Nat) (v : Value) (e' : Int) (p' : Nat) : Prop :=
  ∀ (w : World) (g : Nat) (a : Option Addr) (len cap : Nat), RS w g a len cap xs e p →
    Calls Try.prog f (.pointer (some ⟨g, 0, none⟩) :: args).toArray w fun r w' => r = .returned v ∧ RS w' g a len cap xs e' p' ∧ w.grownBy w' (some g)
/-- A method of the document's Reader does. -/
def XDoes (f : FuncId) (args : List Value) (xs : List Int) (e : Int) (p : Nat) (v : Value) (e' : Int) (p' : Nat) : Prop :=
  ∀ (w : World) (g : Nat) (a : Option Addr) (len cap : Nat), XS w g a len cap xs e p →
    Calls Try.prog f (.pointer (some ⟨g, 0, none⟩) :: args).toArray w fun r w' => r = .returned v ∧ XS w' g a len cap xs e' p' ∧ w.grownBy w' (some g)

theorem same_r {w g a len cap xs e p} (h : RS w g a len cap xs e p) {f : FuncId} {A : Array Value} {v : Value} (c : Calls Try.prog f A w fun r w' => r = .returned v ∧ w' = w) : Calls Try.prog f A w fun r w' => r = .returned v ∧ RS w' g a len cap xs e p ∧ w.grownBy w' (some g) :=
  c.mono (fun _ _ ⟨h1, h2⟩ => ⟨h1, by rw [h2]; exact ⟨h, World.grownBy.refl _ _⟩⟩)
theorem same_x {w g a len cap xs e p} (h : XS w g a len cap xs e p) {f : FuncId} {A : Array Value} {v : Value} (c : Calls Try.prog f A w fun r w' => r = .returned v ∧ w' = w) : Calls Try.prog f A w fun r w' => r = .returned v ∧ XS w' g a len cap xs e p ∧ w.grownBy w' (some g) :=
  c.mono (fun _ _ ⟨h1, h2⟩ => ⟨h1, by rw [h2]; exact ⟨h, World.grownBy.refl _ _⟩⟩)

theorem pair_uint (xs : List Int) (e : Int) (p : Nat) : ∃ (v e' : Int) (p' : Nat), RDoes 13 [] xs e p (.int .u64 v) e' p' ∧ XDoes 35 [] xs e p (.int .u64 v) e' p' := by
  by_cases he : e = 0
  · subst he
    exact ⟨_, _, _, fun w g a len cap h => uint_ok g a len cap xs p w h, fun w g a len cap h => xuint_ok g a len cap xs p w h⟩
  · have hb : (e == 0) = false := by simp [he]
    exact ⟨0, e, p, fun w g a len cap h => same_r h (uint_no g e _ _ w h.rdr hb), fun w g a len cap h => same_x h (xuint_no g a len cap xs e p w h hb)⟩
theorem pair_int (xs : List Int) (e : Int) (p : Nat) (most : Int) (hm : most ≤ 9223372036854775807) : ∃ (v e' : Int) (p' : Nat), RDoes 36 [.int .i64 most] xs e p (.int .i64 v) e' p' ∧ XDoes 37 [.int .i64 most] xs e p (.int .i64 v) e' p' := by
  by_cases he : e = 0
  · subst he
    exact ⟨_, _, _, fun w g a len cap h => int_ok g a len cap xs p most w h hm, fun w g a len cap h => xint_ok g a len cap xs p most w h hm⟩
  · have hb : (e == 0) = false := by simp [he]
    exact ⟨0, e, p, fun w g a len cap h => same_r h (int_no g e _ _ most w h.rdr hb), fun w g a len cap h => same_x h (xint_no g a len cap xs e p most w h hb)⟩
theorem pair_text (xs : List Int) (e : Int) (p : Nat) (most : Int) (hm : most ≤ 9223372036854775807) : ∃ (s : ByteArray) (e' : Int) (p' : Nat), RDoes 38 [.int .i64 most] xs e p (.string s) e' p' ∧ XDoes 39 [.int .i64 most] xs e p (.string s) e' p' := by
  by_cases he : e = 0
  · subst he
    exact ⟨_, _, _, fun w g a len cap h => text_ok g a len cap xs p most w h hm, fun w g a len cap h => xtext_ok g a len cap xs p most w h hm⟩
  · have hb : (e == 0) = false := by simp [he]
    exact ⟨_, e, p, fun w g a len cap h => same_r h (text_no g e _ _ most w h.rdr hb), fun w g a len cap h => same_x h (xtext_no g a len cap xs e p most w h hb)⟩
theorem pair_flag (xs : List Int) (e : Int) (p : Nat) : ∃ (b : Bool) (e' : Int) (p' : Nat), RDoes 40 [] xs e p (.bool b) e' p' ∧ XDoes 41 [] xs e p (.bool b) e' p' := by
  by_cases he : e = 0
  · subst he
    exact ⟨_, _, _, fun w g a len cap h => flag_ok g a len cap xs p w h, fun w g a len cap h => xflag_ok g a len cap xs p w h⟩
  · have hb : (e == 0) = false := by simp [he]
    exact ⟨false, e, p, fun w g a len cap h => flag_no g a len cap xs e p w h hb, fun w g a len cap h => same_x h (xflag_no g a len cap xs e p w h hb)⟩
theorem rg_len (xs : List Int) (p : Nat) : (rg xs p).1.length = 32 := by
  unfold rg
  split
  · simp
  · simp; omega
theorem pair_digest (xs : List Int) (e : Int) (p : Nat) : ∃ (ds : List Int) (e' : Int) (p' : Nat), ds.length = 32 ∧ RDoes 42 [] xs e p (.agg (u8s ds)) e' p' ∧ XDoes 43 [] xs e p (.agg (u8s ds)) e' p' := by
  by_cases he : e = 0
  · subst he
    exact ⟨_, _, _, rg_len xs p, fun w g a len cap h => digest_ok g a len cap xs p w h, fun w g a len cap h => xdigest_ok g a len cap xs p w h⟩
  · have hb : (e == 0) = false := by simp [he]
    exact ⟨_, e, p, by simp, fun w g a len cap h => digest_no g a len cap xs e p w h hb, fun w g a len cap h => xdigest_no g a len cap xs e p w h hb⟩
theorem pair_row (xs : List Int) (e : Int) (p : Nat) : ∃ (k v : List Int) (n e' : Int) (p' : Nat), RDoes 44 [] xs e p (.agg (rowV k v n)) e' p' ∧ XDoes 45 [] xs e p (.agg (rowV k v n)) e' p' := by
  by_cases he : e = 0
  · subst he
    exact ⟨_, _, _, _, _, fun w g a len cap h => row_ok g a len cap xs p w h, fun w g a len cap h => xrow_ok g a len cap xs p w h⟩
  · have hb : (e == 0) = false := by simp [he]
    exact ⟨_, _, _, e, p, fun w g a len cap h => row_no g a len cap xs e p w h hb, fun w g a len cap h => xrow_no g a len cap xs e p w h hb⟩
theorem pair_count (xs : List Int) (e : Int) (p : Nat) (most least : Int) (hm : most ≤ 9223372036854775807) (hl : least ≤ 9223372036854775807) : ∃ (v e' : Int) (p' : Nat), RDoes 46 [.int .i64 most, .int .i64 least] xs e p (.int .i64 v) e' p' ∧ XDoes 47 [.int .i64 most, .int .i64 least] xs e p (.int .i64 v) e' p' := by
  by_cases he : e = 0
  · subst he
    exact ⟨_, _, _, fun w g a len cap h => count_ok g a len cap xs p most least w h hm hl, fun w g a len cap h => xcount_ok g a len cap xs p most least w h hm hl⟩
  · have hb : (e == 0) = false := by simp [he]
    exact ⟨0, e, p, fun w g a len cap h => same_r h (count_no g e _ _ most least w h.rdr hb), fun w g a len cap h => same_x h (xcount_no g a len cap xs e p most least w h hb)⟩
theorem pair_fail (xs : List Int) (e : Int) (p : Nat) (x : Int) : RDoes 48 [.int .i64 x] xs e p (.tuple #[]) (if e = 0 then x else e) p ∧ XDoes 49 [.int .i64 x] xs e p (.tuple #[]) (if e = 0 then x else e) p :=
  ⟨fun w g a len cap h => rfail_c g a len cap xs e x p w h, fun w g a len cap h => xfail_c g a len cap xs e x p w h⟩

set_option maxRecDepth 20000 in
theorem looked_c (g1 g2 : Nat) (a1 a2 : Option Addr) (len c1 c2 : Nat) (xs : List Int) (e : Int) (p : Nat) (w : World) (h1 : RS w g1 a1 len c1 xs e p) (h2 : XS w g2 a2 len c2 xs e p) :
    Calls Try.prog 12 #[.pointer (some ⟨g1, 0, none⟩), .pointer (some ⟨g2, 0, none⟩)] w fun r w' => r = .returned (.bool true) ∧ ∃ n, w' = w.drewN n := by
  have H1 : Hid (RS w g1 a1 len c1 xs e p) := h1
  have H2 : Hid (XS w g2 a2 len c2 xs e p) := h2
  have d0 := h2.rdr.c0
  have d1 := h2.rdr.c1
  have d2 := h2.rdr.c2
  have hle := h1.le
  have hlm := h1.lm
  obtain ⟨L, hL⟩ : ∃ L : Nat, L = len - p := ⟨_, rfl⟩
  have HLL : Hid (∀ n, Calls Try.prog 51 #[.pointer (some ⟨g1, 0, none⟩)] (w.drewN n) fun r w' => r = .returned (.int .i64 (L : Int)) ∧ ∃ m, w' = (w.drewN n).drewN m) := by
    intro n; rw [hL]; exact left_c g1 e a1 len c1 p (w.drewN n) (h1.drewN n).rdr h1.le h1.lm
  have hsub : (len : Int) - (p : Int) = (L : Int) := by omega
  clear h1 h2 hL
  obtain ⟨E, hE⟩ : ∃ E, E = rend len e p := ⟨_, rfl⟩
  have HE1 : Hid (∀ n, Calls Try.prog 53 #[.pointer (some ⟨g1, 0, none⟩)] (w.drewN n) fun r w' => r = .returned (.int .i64 E) ∧ ∃ m, w' = (w.drewN n).drewN m) := by
    intro n; rw [hE]; exact end_c g1 e a1 len c1 p (w.drewN n) (H1.out.drewN n).rdr H1.out.le H1.out.lm
  have HE2 : Hid (∀ n, Calls Try.prog 54 #[.pointer (some ⟨g2, 0, none⟩)] (w.drewN n) fun r w' => r = .returned (.int .i64 E) ∧ ∃ m, w' = (w.drewN n).drewN m) := by
    intro n; rw [hE]; exact xend_c g2 a2 len c2 xs e p (w.drewN n) (H2.out.drewN n)
  clear hE
  go_enter Try.func12, Try.ntmps12
  go_wp2
  go_quiet (first
    | (go_at_call 50; refine Calls.quiet_of_same (at_c g1 e _ _ _ (H1.out.drewN _).rdr))
    | (go_at_call 51; refine Calls.quiet_of (HLL.out _))
    | (go_at_call 52; refine Calls.quiet_of_same (err_c g1 e _ _ _ (H1.out.drewN _).rdr))
    | (go_at_call 53; refine Calls.quiet_of (HE1.out _))
    | (go_at_call 54; refine Calls.quiet_of (HE2.out _)))
  go_wp2
  go_ret
  exact ⟨rfl, _, rfl⟩
end Go.Proofs.Ytdedmmodlbnnfaa
