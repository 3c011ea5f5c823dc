/-
  What message.Between answers of whatever kind. Condition: the list of kinds lies in memory as the program's text lays it, and the library's variable holds some number.
-/
import Derived.Test.YtokkhhekmebakaaDoorECo
namespace Go.Proofs.YtokkhhekmebakaaDoor
open Go.RowKit
set_option linter.unusedVariables false

def bt1 (n : Int) : Bool := has (wyK n) ⟨#[110, 62, 110]⟩
def bt2 (n : Int) : Bool := has (wyK n) ⟨#[109]⟩
def bt3 (n : Int) : Bool := has (wyK n) ⟨#[99]⟩
theorem between_c (n : Int) (w : World) (HK : Knd w) (HM : Max w) : Calls Tryd.prog 4 #[.int .i64 n] w fun r w' => r = .returned (.tuple #[.bool (bt1 n), .bool (bt2 n), .bool (bt3 n)]) ∧ w' = w := by
  have HW : Hid _ := ways_c n w HK
  have H1 : Hid _ := contains_c (wyK n) ⟨#[110, 62, 110]⟩ w (wyK_small n) HM
  have H2 : Hid _ := contains_c (wyK n) ⟨#[109]⟩ w (wyK_small n) HM
  have H3 : Hid _ := contains_c (wyK n) ⟨#[99]⟩ w (wyK_small n) HM
  unfold bt1 bt2 bt3
  generalize wyK n = s at *
  go_enter Tryd.func4, Tryd.ntmps4
  go_wp2_with fail
  refine Calls.mono HW.out ?_
  rintro r wq ⟨rfl, hq⟩; obtain rfl := hq.symm; clear hq
  go_wp2_with fail
  refine Calls.mono H1.out ?_
  rintro r wq ⟨rfl, hq⟩; obtain rfl := hq.symm; clear hq
  go_wp2_with fail
  refine Calls.mono H2.out ?_
  rintro r wq ⟨rfl, hq⟩; obtain rfl := hq.symm; clear hq
  go_wp2_with fail
  refine Calls.mono H3.out ?_
  rintro r wq ⟨rfl, hq⟩; obtain rfl := hq.symm; clear hq
  go_wp2
  go_ret3
  exact ⟨rfl, rfl⟩
end Go.Proofs.YtokkhhekmebakaaDoor
