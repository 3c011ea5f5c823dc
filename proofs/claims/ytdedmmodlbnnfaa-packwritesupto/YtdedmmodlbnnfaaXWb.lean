/-
  What Bytes of the document's Writer answers. No condition of its own.
-/
import Derived.Test.YtdedmmodlbnnfaaXWv
namespace Go.Proofs.Ytdedmmodlbnnfaa
open Go.RowKit
set_option linter.unusedVariables false

set_option maxRecDepth 20000 in
theorem xwbytes_c (B g : Nat) (v : Value) (ys : List Int) (e : Int) (F : Option Nat) (w : World) (h : XW B w g v ys e F) :
    Calls Try.prog 17 #[.pointer (some ⟨g, 0, none⟩)] w fun r w' => (r = .returned (.tuple #[if e = 0 then v else .slice none 0 0, .int .i64 e])) ∧ ∃ n, w' = w.drewN n := by
  have c0 := h.blk.c0
  have c1 := h.blk.c1
  obtain ⟨va, vc, rfl, _⟩ := h.own.seg
  clear h
  by_cases he : e = 0
  · subst he
    go_enter Try.func17, Try.ntmps17
    go_wp2
    go_ret2
    exact ⟨rfl, 0, rfl⟩
  · have hb : (e != 0) = true := by simp [he]
    have HE : Hid ((if e = 0 then Value.slice va ys.length vc else .slice none 0 0) = .slice none 0 0) := by show _ = _; rw [if_neg he]
    rw [HE.out]
    clear HE he
    go_enter Try.func17, Try.ntmps17
    go_wp2
    go_quiet (fail)
    go_wp2
    go_ret2
    exact ⟨rfl, _, rfl⟩
end Go.Proofs.Ytdedmmodlbnnfaa
