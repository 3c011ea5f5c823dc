/-
  What the document's Peek and Room answer: what the plain functions pk and rm give. Condition: at most 2^47 bytes.
-/
import Derived.Test.YtcdgfghcmeadgaaDoorIPg
namespace Go.Proofs.YtcdgfghcmeadgaaDoor
open Go.RowKit
set_option linter.unusedVariables false

theorem xint_c (g : Nat) (a : Option Addr) (len cap : Nat) (xs : List Int) (e : Int) (p : Nat) (most : Int) (w : World) (h : XS w g a len cap xs e p) (hm : most ≤ 9223372036854775807) :
    Calls Tryd.prog 52 #[.pointer (some ⟨g, 0, none⟩), .int .i64 most] w fun r w' => r = .returned (.int .i64 (pI xs p e most).1) ∧ XS w' g a len cap xs (pI xs p e most).2.2 (pI xs p e most).2.1 ∧ w.grownBy w' (some g) := by
  unfold pI
  by_cases he : e = 0
  · subst he
    rw [if_neg (by simp)]
    exact xint_ok g a len cap xs p most w h hm
  · rw [if_pos he]
    exact (xint_no g a len cap xs e p most w h (by simpa using he)).mono fun r w' ⟨h1, h2⟩ => ⟨h1, by rw [h2]; exact ⟨h, World.grownBy.refl _ _⟩⟩
theorem xs_new {w : World} {a : Option Addr} {len cap : Nat} {xs : List Int} (h : Seg .u8 w a len xs) (hx : Bytes xs) (hl : len ≤ 140737488355328) (hlc : len ≤ cap) (hcm : cap ≤ 9223372036854775807) :
    XS (w.alloc (.cells #[.slice a len cap, .int .i64 0, .int .i64 0] 109)) w.heap.size a len cap xs 0 0 ∧ w.grownBy (w.alloc (.cells #[.slice a len cap, .int .i64 0, .int .i64 0] 109)) none := by
  have hg : w.grownBy (w.alloc (.cells #[.slice a len cap, .int .i64 0, .int .i64 0] 109)) none := World.grownBy_alloc _ _ _
  refine ⟨⟨heap_new w _, h.grew hg (by simp), hx, ?_, Nat.zero_le _, hlc, hl, hcm⟩, hg⟩
  rcases h.2 with z | ⟨b, off, q, hb, _⟩
  · exact .inl z
  · refine .inr (fun b' o s q' => ?_)
    rw [q] at q'
    cases q'
    omega
end Go.Proofs.YtcdgfghcmeadgaaDoor
