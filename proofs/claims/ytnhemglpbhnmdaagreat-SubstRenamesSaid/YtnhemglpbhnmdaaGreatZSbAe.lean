/-
  What is proved: the document's lift and package bind's agree: of numbers that a computer has, by 0; of right terms of low numbers, by any depth (plain mathematics).
-/
import Derived.Test.YtnhemglpbhnmdaaGreatZSbRc
import Derived.Test.YtnhemglpbhnmdaaGreatZSbL
namespace Go.Proofs.YtnhemglpbhnmdaaGreat.U
open Go.RowKit L T C B
set_option linter.unusedVariables false
set_option linter.unusedSimpArgs false

mutual
/-- every number is one of 64 bits -/
def zT : Tm → Prop
  | .mk _ _ z l => (-9223372036854775808 ≤ z ∧ z ≤ 9223372036854775807) ∧ zTs l
def zTs : List Tm → Prop
  | [] => True
  | t :: l => zT t ∧ zTs l
end
mutual
/-- bound numbers are neither negative nor great -/
def okN : Tm → Prop
  | .mk o _ z l => (o = 2 → 0 ≤ z ∧ z ≤ 1099511627776) ∧ okNs l
def okNs : List Tm → Prop
  | [] => True
  | t :: l => okN t ∧ okNs l
end
mutual
theorem okN_of : ∀ t : Tm, lowT t = true → partE t = 0 → okN t
  | .mk o s z l, h1, h2 => by
    rw [lowT, Bool.and_eq_true] at h1
    rw [partE] at h2
    by_cases hf : formB o s z = true
    · rw [if_pos hf] at h2; omega
    · rw [if_neg hf] at h2
      by_cases ha : arityB o l.length = true
      · rw [if_pos ha] at h2; omega
      · rw [if_neg ha] at h2
        rw [okN]
        refine ⟨fun ho => ?_, okNs_of l h1.1 h2⟩
        subst ho
        have h3 := h1.2
        refine ⟨?_, by simpa using h3⟩
        rcases (show z < 0 ∨ 0 ≤ z by omega) with hz | hz
        · exact absurd (by unfold formB; simp [hz]) hf
        · exact hz
theorem okNs_of : ∀ l : List Tm, lowTs l = true → partsE l = 0 → okNs l
  | [], _, _ => by rw [okNs]; trivial
  | t :: l, h1, h2 => by
    rw [lowTs, Bool.and_eq_true] at h1
    rw [partsE] at h2
    by_cases h : partE t = 0
    · rw [if_neg (by simpa using h)] at h2
      rw [okNs]
      exact ⟨okN_of t h1.1 h, okNs_of l h1.2 h2⟩
    · rw [if_pos h] at h2; exact absurd h2 h
end
theorem rightE_part {t : Tm} (h : rightE t = 0) : partE t = 0 := by
  unfold rightE at h
  by_cases h1 : 64 < depth t
  · rw [if_pos h1] at h; omega
  · rw [if_neg h1] at h
    by_cases h2 : 4096 < size t
    · rw [if_pos h2] at h; omega
    · rw [if_neg h2] at h; exact h
mutual
theorem lf_wk (K : Int) (h0 : 0 ≤ K) (h1 : K ≤ 1000000000) : ∀ t : Tm, okN t → lfT K t = wk (fLift K 0) 0 t
  | .mk o s z l, h => by
    rw [okN] at h
    rw [lfT, wk, lfs_wk K h0 h1 l h.2]
    unfold fLift
    by_cases ho : o = 2
    · obtain ⟨z0, z1⟩ := h.1 ho
      have e1 : wrap64 (z - 0) = z := by unfold wrap64; omega
      have e2 : wrap64 (max (wrap64 (z + K)) 0 + 0) = z + K := by
        have : wrap64 (z + K) = z + K := by unfold wrap64; omega
        rw [this]; unfold wrap64; omega
      have e3 : IntKind.i64.wrap (z + K) = z + K := by rw [IntKind.wrap_i64]; omega
      rw [if_pos ho, if_pos ⟨ho, z0⟩, e1, if_pos z0, e2, e3]
    · rw [if_neg ho, if_neg (fun h => ho h.1)]
theorem lfs_wk (K : Int) (h0 : 0 ≤ K) (h1 : K ≤ 1000000000) : ∀ l : List Tm, okNs l → lfTs K l = wks (fLift K 0) 0 l
  | [], _ => by rw [lfTs, wks]
  | t :: l, h => by rw [okNs] at h; rw [lfTs, wks, lf_wk K h0 h1 t h.1, lfs_wk K h0 h1 l h.2]
end
mutual
theorem lf_wk0 : ∀ t : Tm, zT t → lfT 0 t = wk (fLift 0 0) 0 t
  | .mk o s z l, h => by
    rw [zT] at h
    rw [lfT, wk, lfs_wk0 l h.2]
    unfold fLift
    obtain ⟨z0, z1⟩ := h.1
    by_cases ho : o = 2
    · have e3 : IntKind.i64.wrap (z + 0) = z := by rw [IntKind.wrap_i64]; omega
      rcases (show z < 0 ∨ 0 ≤ z by omega) with hz | hz
      · rw [if_pos ho, if_neg (fun h => by omega), e3]
      · have e1 : wrap64 (z - 0) = z := by unfold wrap64; omega
        have e2 : wrap64 (max (wrap64 (z + 0)) 0 + 0) = z := by
          have : wrap64 (z + 0) = z := by unfold wrap64; omega
          rw [this]; unfold wrap64; omega
        rw [if_pos ho, if_pos ⟨ho, hz⟩, e1, if_pos hz, e2, e3]
    · rw [if_neg ho, if_neg (fun h => ho h.1)]
theorem lfs_wk0 : ∀ l : List Tm, zTs l → lfTs 0 l = wks (fLift 0 0) 0 l
  | [], _ => by rw [lfTs, wks]
  | t :: l, h => by rw [zTs] at h; rw [lfTs, wks, lf_wk0 t h.1, lfs_wk0 l h.2]
end
theorem get_eq {l : List Pr} {K : Int} (h : ∀ p ∈ l, lfT K p.t = wk (fLift K 0) 0 p.t) : getL l K = getK l K := by
  funext s
  unfold getL getK
  cases hg : getU l s with
  | none => rfl
  | some u =>
    obtain ⟨p, hp, rfl⟩ := getU_mem hg
    exact congrArg some (h p hp)
mutual
theorem sbRl_eq {l : List Pr} (h : ∀ p ∈ l, okN p.t) : ∀ (t : Cl) (K : Int), 0 ≤ K → K + (wt t : Int) ≤ 1000000000 → sbRl l K t = sbCl l K t
  | .mk o s z ts cs, K, h0, h1 => by
    have e : wt (.mk o s z ts cs) = 1 + sizes ts + wts cs := by rw [wt]
    rw [sbRl, sbCl, get_eq (fun p hp => lf_wk K h0 (by omega) p.t (h p hp)), sbRls_eq h cs _ (by by_cases hc : o = 11 ∨ o = 12 <;> simp only [hc, if_true, if_false] <;> omega) (by by_cases hc : o = 11 ∨ o = 12 <;> simp only [hc, if_true, if_false] <;> omega)]
theorem sbRls_eq {l : List Pr} (h : ∀ p ∈ l, okN p.t) : ∀ (cs : List Cl) (K : Int), 0 ≤ K → K + (wts cs : Int) ≤ 1000000000 → sbRls l K cs = sbCls l K cs
  | [], K, _, _ => by rw [sbRls, sbCls]
  | c :: cs, K, h0, h1 => by
    have e : wts (c :: cs) = wt c + wts cs := by rw [wts]
    rw [sbRls, sbCls, sbRl_eq h c K h0 (by omega), sbRls_eq h cs K h0 (by omega)]
end
end Go.Proofs.YtnhemglpbhnmdaaGreat.U
