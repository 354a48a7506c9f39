/-
  What is proved: the law on brackets, whatever the two claims and the sign are.
-/
import Derived.Test.YtcigeclnbhcohaaGreatDoorLB
import Derived.Test.YtcigeclnbhcohaaGreatDoorZShLd
namespace Go.Proofs.YtcigeclnbhcohaaGreatDoor.Sh
open Go.RowKit L T C
set_option linter.unusedVariables false

theorem showBrackets (x y : ClV) (op : Int) (W : World) (hx : ArWC W x.t x.k x.a x.n x.c ∧ smC x.t) (hy : ArWC W y.t y.k y.a y.n y.c ∧ smC y.t) (ho0 : -9223372036854775808 ≤ op) (ho1 : op ≤ 9223372036854775807) (E : Env W) :
    Calls Tryz.prog 8 #[x.val, y.val, .int .i64 op] W fun e w' => e = .returned (.bool true) ∧ Below W.heap.size W w' := by
  by_cases hg : plC x.t 150 = true ∧ plC y.t 150 = true ∧ ltC x.t = true ∧ ltC y.t = true ∧ 7 ≤ op ∧ op ≤ 10
  · obtain ⟨p1, p2, l1, l2, ho⟩ := hg
    by_cases hr0 : crightE (.mk op ⟨#[]⟩ ⟨#[]⟩ [] [x.t, y.t]) = 0
    · exact brackets_yes x y op W hx hy ho0 ho1 E p1 p2 l1 l2 ho hr0
    · exact brackets_wrong x y op W hx hy ho0 ho1 E p1 p2 l1 l2 ho hr0
  · exact brackets_no x y op W hx hy ho0 ho1 E hg
end Go.Proofs.YtcigeclnbhcohaaGreatDoor.Sh
