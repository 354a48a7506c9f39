/-
  What is proved: deep8_any (taken out of RgtB, for seats without that function).
-/
import Derived.Test.YtnhemglpbhnmdaaGreatZRgtBx
import Derived.Test.YtnhemglpbhnmdaaGreatBR
namespace Go.Proofs.YtnhemglpbhnmdaaGreat.C
open Go.RowKit L T
set_option linter.unusedVariables false
set_option linter.unusedSimpArgs false

theorem deep8_any (t : Cl) : DeepOk t := Cl.ind deep8_step t
end Go.Proofs.YtnhemglpbhnmdaaGreat.C
