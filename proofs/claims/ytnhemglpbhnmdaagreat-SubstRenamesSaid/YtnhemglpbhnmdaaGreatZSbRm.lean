/-
  What is proved: a variable renamed to a name that a right claim has not, and back, gives the claim again (plain mathematics).
-/
import Derived.Test.YtnhemglpbhnmdaaGreatZSbJ
import Derived.Test.YtnhemglpbhnmdaaGreatZSbTe
import Derived.Test.YtnhemglpbhnmdaaGreatBR
namespace Go.Proofs.YtnhemglpbhnmdaaGreat.U
open Go.RowKit L T C B
set_option linter.unusedVariables false
set_option linter.unusedSimpArgs false

def varT (s : ByteArray) : Tm := .mk 1 s 0 []
def ren1 (a b : ByteArray) : List Pr := [⟨a, varT b⟩]
theorem lift_var (K : Int) (s : ByteArray) : wk (fLift K 0) 0 (varT s) = varT s := by
  unfold varT
  rw [wk]
  have e : fLift K 0 0 1 s 0 = .go 0 := by unfold fLift; rw [if_neg (fun h => by have := h.1; omega)]
  rw [e]
  show Tm.mk 1 s 0 (wks (fLift K 0) 0 []) = _
  rw [wks]
theorem getK_ren (a b s : ByteArray) (K : Int) : getK (ren1 a b) K s = if a = s then some (varT b) else none := by
  unfold getK ren1
  rw [getU, getU]
  by_cases h : a = s
  · rw [if_pos h, if_pos (eqS_iff.2 h)]
    show some (wk (fLift K 0) 0 (varT b)) = _
    rw [lift_var]
  · rw [if_neg h, if_neg (fun e => h (eqS_iff.1 e))]; rfl
theorem var_form {s : ByteArray} {z : Int} {l : List Tm} (h : partE (.mk 1 s z l) = 0) : z = 0 ∧ l = [] := by
  rw [partE] at h
  by_cases h1 : formB 1 s z = true
  · rw [if_pos h1] at h; omega
  · rw [if_neg h1] at h
    by_cases h2 : arityB 1 l.length = true
    · rw [if_pos h2] at h; omega
    · refine ⟨?_, List.eq_nil_of_length_eq_zero ?_⟩
      · by_cases hz : z = 0
        · exact hz
        · exact absurd (by simp [formB, hz]) h1
      · by_cases hz : l.length = 0
        · exact hz
        · exact absurd (by simp [arityB, argsI]; exact .inl (fun e => hz (by rw [e]; rfl))) h2
mutual
theorem back_t (a b : ByteArray) (K : Int) : ∀ t : Tm, partE t = 0 → b ∉ nmsT t → sbT (getK (ren1 b a) K) (sbT (getK (ren1 a b) K) t) = t
  | .mk o s z l, h, hn => by
    rw [nmsT] at hn
    by_cases ho : o = 1
    · subst ho
      obtain ⟨rfl, rfl⟩ := var_form h
      rw [if_pos rfl] at hn
      have hs : ¬ b = s := fun e => hn (by simp [e])
      by_cases ha : a = s
      · rw [sbT_put (t := .mk 1 s 0 []) rfl (by show getK (ren1 a b) K s = _; rw [getK_ren, if_pos ha]), sbT_put (t := varT b) rfl (by show getK (ren1 b a) K b = _; rw [getK_ren, if_pos rfl])]
        rw [ha]; rfl
      · rw [sbT_go (t := .mk 1 s 0 []) (.inr (by show getK (ren1 a b) K s = _; rw [getK_ren, if_neg ha]))]
        show sbT (getK (ren1 b a) K) (.mk 1 s 0 []) = _
        rw [sbT_go (t := .mk 1 s 0 []) (.inr (by show getK (ren1 b a) K s = _; rw [getK_ren, if_neg hs]))]
        rfl
    · have hp : partsE l = 0 := by
        rw [partE] at h
        by_cases h1 : formB o s z = true
        · rw [if_pos h1] at h; omega
        · rw [if_neg h1] at h
          by_cases h2 : arityB o l.length = true
          · rw [if_pos h2] at h; omega
          · rw [if_neg h2] at h; exact h
      rw [sbT_go (t := .mk o s z l) (.inl ho)]
      show sbT (getK (ren1 b a) K) (.mk o s z (l.map (sbT (getK (ren1 a b) K)))) = _
      rw [sbT_go (t := .mk o s z (l.map (sbT (getK (ren1 a b) K)))) (.inl ho)]
      show Tm.mk o s z ((l.map (sbT (getK (ren1 a b) K))).map (sbT (getK (ren1 b a) K))) = _
      rw [← sbTs_map, ← sbTs_map, back_ts a b K l hp (fun e => hn (List.mem_append.2 (.inr e)))]
theorem back_ts (a b : ByteArray) (K : Int) : ∀ l : List Tm, partsE l = 0 → b ∉ nmsTs l → sbTs (getK (ren1 b a) K) (sbTs (getK (ren1 a b) K) l) = l
  | [], _, _ => by rw [sbTs, sbTs]
  | t :: l, h, hn => by
    rw [partsE] at h
    rw [nmsTs] at hn
    by_cases h1 : partE t ≠ 0
    · rw [if_pos h1] at h; exact absurd h h1
    · rw [if_neg h1] at h
      rw [sbTs, sbTs, back_t a b K t (by omega) (fun e => hn (List.mem_append.2 (.inl e))), back_ts a b K l h (fun e => hn (List.mem_append.2 (.inr e)))]
end
theorem rights_parts : ∀ l : List Tm, rightsE l = 0 → partsE l = 0
  | [], _ => by rw [partsE]
  | t :: l, h => by
    rw [rightsE] at h
    by_cases h1 : rightE t ≠ 0
    · rw [if_pos h1] at h; exact absurd h h1
    · rw [if_neg h1] at h
      rw [partsE, right_part (t := t) (by omega), if_neg (by simp), rights_parts l h]
mutual
theorem back_c (a b : ByteArray) : ∀ (c : Cl) (K : Int), cpartE c = 0 → b ∉ nmsC c → sbCl (ren1 b a) K (sbCl (ren1 a b) K c) = c
  | .mk o s z ts cs, K, h, hn => by
    rw [nmsC] at hn
    have hp : rightsE ts = 0 ∧ cpartsE cs = 0 := by
      rw [cpartE] at h
      by_cases h1 : formC o s z = true
      · rw [if_pos h1] at h; omega
      · rw [if_neg h1] at h
        by_cases h2 : arityC o ts.length cs.length = true
        · rw [if_pos h2] at h; omega
        · rw [if_neg h2] at h
          by_cases h3 : rightsE ts ≠ 0
          · rw [if_pos h3] at h; exact absurd h h3
          · rw [if_neg h3] at h; exact ⟨by omega, h⟩
    rw [sbCl, sbCl, ← sbTs_map, ← sbTs_map, back_ts a b K ts (rights_parts ts hp.1) (fun e => hn (List.mem_append.2 (.inl e))), back_cs a b cs _ hp.2 (fun e => hn (List.mem_append.2 (.inr e)))]
theorem back_cs (a b : ByteArray) : ∀ (l : List Cl) (K : Int), cpartsE l = 0 → b ∉ nmsCs l → sbCls (ren1 b a) K (sbCls (ren1 a b) K l) = l
  | [], K, _, _ => by rw [sbCls, sbCls]
  | c :: l, K, h, hn => by
    rw [cpartsE] at h
    rw [nmsCs] at hn
    by_cases h1 : cpartE c ≠ 0
    · rw [if_pos h1] at h; exact absurd h h1
    · rw [if_neg h1] at h
      rw [sbCls, sbCls, back_c a b c K (by omega) (fun e => hn (List.mem_append.2 (.inl e))), back_cs a b l K h (fun e => hn (List.mem_append.2 (.inr e)))]
end
/-- a claim that law10's right takes has no error -/
theorem r10_part {l : List Pr} {c : Cl} (h : r10 l c = true) : cpartE c = 0 := by
  unfold r10 at h
  rw [Bool.and_eq_true, Bool.and_eq_true, beq_iff_eq] at h
  have h2 := h.2.1
  unfold crightE at h2
  by_cases h1 : 64 < dpC c
  · rw [if_pos h1] at h2; omega
  · rw [if_neg h1] at h2
    by_cases h3 : 4096 < wt c
    · rw [if_pos h3] at h2; omega
    · rw [if_neg h3] at h2; exact h2
/-! the terms of all parts, in order -/
mutual
def tsAll : Cl → List Tm
  | .mk _ _ _ ts l => ts ++ tsAlls l
def tsAlls : List Cl → List Tm
  | [] => []
  | c :: l => tsAll c ++ tsAlls l
end
mutual
theorem nms_alls : ∀ (t : Tm) (x : ByteArray), x ∈ nmsT t → ∃ u ∈ all t, opT u = 1 ∧ nameT u = x
  | .mk o s z l, x, h => by
    rw [nmsT] at h
    rw [all]
    rcases List.mem_append.1 h with h | h
    · by_cases ho : o = 1
      · rw [if_pos ho] at h
        exact ⟨.mk o s z l, by simp, ho, (List.mem_singleton.1 h).symm⟩
      · rw [if_neg ho] at h; cases h
    · obtain ⟨u, hu, e⟩ := nmss_alls l x h
      exact ⟨u, List.mem_cons_of_mem _ hu, e⟩
theorem nmss_alls : ∀ (l : List Tm) (x : ByteArray), x ∈ nmsTs l → ∃ u ∈ alls l, opT u = 1 ∧ nameT u = x
  | [], x, h => by rw [nmsTs] at h; cases h
  | t :: l, x, h => by
    rw [nmsTs] at h
    rw [alls]
    rcases List.mem_append.1 h with h | h
    · obtain ⟨u, hu, e⟩ := nms_alls t x h
      exact ⟨u, List.mem_append.2 (.inl hu), e⟩
    · obtain ⟨u, hu, e⟩ := nmss_alls l x h
      exact ⟨u, List.mem_append.2 (.inr hu), e⟩
end
theorem alls_appR (l m : List Tm) : alls (l ++ m) = alls l ++ alls m := by
  induction l with
  | nil => rfl
  | cons t l ih => rw [List.cons_append, alls, alls, ih, List.append_assoc]
mutual
theorem nmsC_alls : ∀ (c : Cl) (x : ByteArray), x ∈ nmsC c → ∃ u ∈ alls (tsAll c), opT u = 1 ∧ nameT u = x
  | .mk o s z ts l, x, h => by
    rw [nmsC] at h
    rw [tsAll, alls_appR]
    rcases List.mem_append.1 h with h | h
    · obtain ⟨u, hu, e⟩ := nmss_alls ts x h
      exact ⟨u, List.mem_append.2 (.inl hu), e⟩
    · obtain ⟨u, hu, e⟩ := nmsCs_alls l x h
      exact ⟨u, List.mem_append.2 (.inr hu), e⟩
theorem nmsCs_alls : ∀ (l : List Cl) (x : ByteArray), x ∈ nmsCs l → ∃ u ∈ alls (tsAlls l), opT u = 1 ∧ nameT u = x
  | [], x, h => by rw [nmsCs] at h; cases h
  | c :: l, x, h => by
    rw [nmsCs] at h
    rw [tsAlls, alls_appR]
    rcases List.mem_append.1 h with h | h
    · obtain ⟨u, hu, e⟩ := nmsC_alls c x h
      exact ⟨u, List.mem_append.2 (.inl hu), e⟩
    · obtain ⟨u, hu, e⟩ := nmsCs_alls l x h
      exact ⟨u, List.mem_append.2 (.inr hu), e⟩
end
/-- renamed to a name that is not among its names, and back: the claim -/
theorem back_claim {a b : ByteArray} {c : Cl} {l : List Pr} (hr : r10 l c = true) (hn : hasS (names (tsAll c)) b = false) : sbCl (ren1 b a) 0 (sbCl (ren1 a b) 0 c) = c :=
  back_c a b c 0 (r10_part hr) fun e => by
    have := (mem_names (tsAll c) b).2 (nmsC_alls c b e)
    rw [hasS_iff.2 this] at hn
    cases hn
end Go.Proofs.YtnhemglpbhnmdaaGreat.U
