/-
  What is proved: the chapter's examples, in plain words.
-/
import Derived.Test.YtcigeclnbhcohaaGreatDoorZShSh
namespace Go.Proofs.YtcigeclnbhcohaaGreatDoor.Sh
open Go.RowKit L T C
set_option linter.unusedVariables false
set_option linter.unusedSimpArgs false
set_option maxRecDepth 100000

def yx : Tm := .mk 1 ⟨#[120]⟩ 0 []
def yy : Tm := .mk 1 ⟨#[121]⟩ 0 []
def ym : Tm := .mk 4 ⟨#[]⟩ (-1) []
def y8 : Tm := .mk 8 ⟨#[]⟩ 2 [yx]
def y5 : Tm := .mk 5 ⟨#[]⟩ 0 [yy, ym]
def y6 : Tm := .mk 6 ⟨#[]⟩ 0 [y8, y5]
def y0 : Tm := .mk 2 ⟨#[]⟩ 0 []
def kP : Cl := .mk 3 ⟨#[112]⟩ ⟨#[]⟩ [] []
def kQ : Cl := .mk 3 ⟨#[113]⟩ ⟨#[]⟩ [y0] []
def kA : Cl := .mk 11 ⟨#[120]⟩ ⟨#[65]⟩ [] [kQ]
def k1 : Cl := .mk 7 ⟨#[]⟩ ⟨#[]⟩ [] [kP, kA]
def k2 : Cl := .mk 7 ⟨#[]⟩ ⟨#[]⟩ [] [kA, kP]
theorem dig2 : dig 2 = ⟨#[50]⟩ := by decide +kernel
theorem digm : dig (-1) = ⟨#[45, 49]⟩ := by decide +kernel
theorem y6_text : tX [] y6 = ⟨#[50, 32, 42, 32, 120, 32, 45, 32, 40, 121, 32, 43, 32, 40, 45, 49, 41, 41]⟩ := by decide +kernel
theorem y6_right : rightE y6 = 0 := by decide +kernel
theorem k1_right : crightE k1 = 0 := by decide +kernel
theorem k2_right : crightE k2 = 0 := by decide +kernel
theorem y6_ok : okT y6 := by
  unfold y6 y8 y5 yx yy ym
  simp only [okT, okTs, arT]
  refine ⟨by simp, by decide, by decide, ⟨by simp, by decide, by decide, ⟨by simp, by decide, by decide, trivial⟩, trivial⟩, ⟨by simp, by decide, by decide, ⟨by simp, by decide, by decide, trivial⟩, ⟨by simp, by decide, by decide, trivial⟩, trivial⟩, trivial⟩
theorem kP_ok : okC kP := by
  unfold kP
  simp only [okC, okCs, okTs, arC]
  exact ⟨by simp, by decide, by decide, trivial, trivial⟩
theorem kA_ok : okC kA := by
  unfold kA kQ y0
  simp only [okC, okCs, okT, okTs, arC, arT]
  exact ⟨by simp, by decide, by decide, trivial, ⟨by simp, by decide, by decide, ⟨⟨by simp, by decide, by decide, trivial⟩, trivial⟩, trivial⟩, trivial⟩
theorem k1_ok : okC k1 := by
  unfold k1
  simp only [okC, okCs, okTs, arC]
  exact ⟨by simp, by decide, by decide, trivial, kP_ok, kA_ok, trivial⟩
theorem k2_ok : okC k2 := by
  unfold k2
  simp only [okC, okCs, okTs, arC]
  exact ⟨by simp, by decide, by decide, trivial, kA_ok, kP_ok, trivial⟩
theorem x_free {X : List ByteArray} (h : hasS X ⟨#[120]⟩ = false) : bname X ⟨#[120]⟩ = ⟨#[120]⟩ := by
  have hb : base ⟨#[120]⟩ = ⟨#[120]⟩ := by decide +kernel
  have hf : frB X ⟨#[120]⟩ = ⟨#[120]⟩ := by
    unfold frB
    rw [frN_is (n := 0) ⟨h, fun m hm => by omega⟩, ixN_zero]
  unfold bname
  rw [hb, hf, if_pos (by decide)]
theorem kP_text (fr bs : List ByteArray) (m : Int) (hm : 0 ≤ m) (fol : Bool) : cT fr kP bs m fol = ⟨#[112]⟩ := by
  unfold cT cP
  have : nd kP m fol = false := by unfold nd; rw [show loC (opC kP) = 0 from rfl, decide_eq_false (by omega)]; rfl
  rw [this]
  show cX fr kP bs fol = _
  unfold kP
  rw [cX_pred]; rfl
theorem kA_text (fr : List ByteArray) (h : hasS fr ⟨#[120]⟩ = false) (fol : Bool) : cX fr kA [] fol = ⟨#[33, 120, 58, 32, 65, 46, 32, 113, 40, 120, 41]⟩ := by
  unfold kA
  rw [cX_bind fr 11 (Or.inl rfl), List.append_nil, x_free h]
  have : cT fr kQ ([] ++ [⟨#[120]⟩]) 5 false = ⟨#[113, 40, 120, 41]⟩ := by
    unfold cT cP
    rw [show nd kQ 5 false = false from by decide]
    show cX fr kQ _ false = _
    unfold kQ
    rw [cX_pred]; decide +kernel
  rw [this]
  decide +kernel
theorem k1_names : nmsA k1 = [⟨#[112]⟩, ⟨#[113]⟩] := by decide +kernel
theorem k2_names : nmsA k2 = [⟨#[113]⟩, ⟨#[112]⟩] := by decide +kernel
theorem k1_text : clT k1 = ⟨#[112, 32, 38, 32, 33, 120, 58, 32, 65, 46, 32, 113, 40, 120, 41]⟩ := by
  unfold clT
  rw [k1_names, cT_no (by decide)]
  unfold k1
  rw [cX_two _ 7 (by omega), kP_text _ _ _ (by decide)]
  rw [cT_no (by decide), kA_text _ (by decide +kernel)]
  decide +kernel
theorem k2_text : clT k2 = ⟨#[40, 33, 120, 58, 32, 65, 46, 32, 113, 40, 120, 41, 41, 32, 38, 32, 112]⟩ := by
  unfold clT
  rw [k2_names, cT_no (by decide)]
  unfold k2
  rw [cX_two _ 7 (by omega), kP_text _ _ _ (by decide)]
  rw [cT_yes (by decide), kA_text _ (by decide +kernel)]
  decide +kernel
end Go.Proofs.YtcigeclnbhcohaaGreatDoor.Sh
