/-
  What a Hasher's Write does: the state goes on as the bytes say. Condition: the Hasher was made, the bytes can be read and lie elsewhere.
-/
import Derived.Test.YtlfppknpnfeplaaSHa
namespace Go.Proofs.Ytlfppknpnfeplaa
set_option linter.unusedVariables false
open Go.RowKit

set_option maxRecDepth 20000 in
set_option maxHeartbeats 400000 in
theorem hwrite_c (g : Nat) (p : St × List Int) (n : Nat) (a : Option Addr) (len cap : Nat) (xs : List Int) (w : World) (h : Hs 70 [.bool true] w g p n) (hs : Seg .u8 w a len xs) (hx : Bytes xs) (hp : Bytes p.2) (hf : Far g a len) (hlc : len ≤ cap) (hcm : cap ≤ 9223372036854775807) (hn : n + len < 4611686018427387904) :
    Calls Try.prog 10 #[.pointer (some ⟨g, 0, none⟩), .slice a len cap] w fun r w' => r = .returned (.tuple #[]) ∧ Hs 70 [.bool true] w' g (shz p xs) (n + len) ∧ w.grownBy w' (some g) := by
  have HR : Hid _ := ready_yes g w h.made
  have HT : Hid (Calls Try.prog 31 #[.pointer (some ⟨g, 1, none⟩), .slice a len cap] w fun r w' => r = .returned (.tuple #[]) ∧ Hs 70 [.bool true] w' g (shz p xs) (n + len) ∧ w.grownBy w' (some g)) := take_c 70 [.bool true] g p n a len cap xs w h hs hx hp hf hlc hcm hn
  clear h hs hx hp hf
  go_enter Try.func10, Try.ntmps10
  go_wp2_with (first
    | (go_at_call 30; refine (Calls.mono HR.out ?_); rintro r wq ⟨rfl, rfl⟩)
    | (go_at_call 31; refine (Calls.mono HT.out ?_); rintro r w1 ⟨rfl, h1⟩; have H1 : Hid _ := h1; clear h1))
  refine bodyPost_end (results_none rfl _ _ _) rfl ?_
  exact ⟨rfl, H1.out⟩
end Go.Proofs.Ytlfppknpnfeplaa
