/-
  Plain mathematics: parts one behind the other. No condition of its own.
-/
namespace Go.Proofs.YtlfijnegmnploacDoor
set_option linter.unusedVariables false

theorem flat_le (X : List (List Int)) (k : Nat) : (X.take k).flatten.length ≤ X.flatten.length := by
  have : X.flatten = (X.take k).flatten ++ (X.drop k).flatten := by rw [← List.flatten_append, List.take_append_drop]
  rw [this, List.length_append]; omega
end Go.Proofs.YtlfijnegmnploacDoor
