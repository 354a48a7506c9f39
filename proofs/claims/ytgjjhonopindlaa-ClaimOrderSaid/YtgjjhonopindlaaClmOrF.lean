/-
  What is proved: the law over the order of claims, for any three claims and any name.
-/
import Derived.Test.YtgjjhonopindlaaClmOr11
import Derived.Test.YtgjjhonopindlaaClmOr12
namespace Go.Proofs.Ytgjjhonopindlaa.C
open Go.RowKit L T
set_option linter.unusedVariables false

theorem claimOrder (x y z : ClV) (s : ByteArray) (w : World) (hx : ArWC w x.t x.k x.a x.n x.c) (hy : ArWC w y.t y.k y.a y.n y.c) (hz : ArWC w z.t z.k z.a z.n z.c) (hs : s.size ≤ 9223372036854775807) :
    Calls Try.prog 5 #[x.val, y.val, z.val, .string s] w fun e w' => e = .returned (.bool true) ∧ Below w.heap.size w w' := by
  by_cases h11 : opC x.t = 11
  · exact orders11 x.t y.t z.t x.k y.k z.k x.a y.a z.a x.n x.c y.n y.c z.n z.c s w h11 hx hy hz
  · by_cases h12 : opC x.t = 12
    · exact orders12 x.t y.t z.t x.k y.k z.k x.a y.a z.a x.n x.c y.n y.c z.n z.c s w h12 hx hy hz
    · exact ordersN x.t y.t z.t x.k y.k z.k x.a y.a z.a x.n x.c y.n y.c z.n z.c s w h11 h12 hx hy hz
end Go.Proofs.Ytgjjhonopindlaa.C
