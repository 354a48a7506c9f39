/-
  What is proved: a pair put into a list of pairs, by package subst and by the document: the same; it is found; a right list stays right (plain mathematics).
-/
import Derived.Test.YtnodcpifbcabmaaZSbPu
import Derived.Test.YtnodcpifbcabmaaZSbPr
import Derived.Test.YtnodcpifbcabmaaZSbD
import Derived.Test.YtnodcpifbcabmaaZSbMb
namespace Go.Proofs.Ytnodcpifbcabmaa.U
open Go.RowKit L T C B Mt
set_option linter.unusedVariables false
set_option linter.unusedSimpArgs false

theorem eqF_iff {s : ByteArray} {p : Pr} : eqF s p = decide (cmpN p.nm s = 0) := same_yes
theorem putR_true (x : Pr) : ∀ l : List Pr, putR x true l = keepP (eqF x.nm) l
  | [] => rfl
  | p :: l => by
    rw [putR, putR_true x l]
    by_cases h : cmpN p.nm x.nm = 0
    · have he : eqF x.nm p = true := by rw [eqF_iff]; exact decide_eq_true h
      rw [if_pos h]; unfold keepP; rw [List.filter_cons_of_neg (by simp [he])]
    · have he : eqF x.nm p = false := by rw [eqF_iff]; exact decide_eq_false h
      rw [if_neg h, if_neg (by simp)]; unfold keepP; rw [List.filter_cons_of_pos (by simp [he])]
theorem putR_eq (x : Pr) : ∀ l : List Pr, putR x false l = putU l x
  | [] => rfl
  | p :: l => by
    have ih := putR_eq x l
    have iht := putR_true x l
    rw [putR]
    unfold putU at ih ⊢
    by_cases h : cmpN p.nm x.nm = 0
    · have he : eqF x.nm p = true := by rw [eqF_iff]; exact decide_eq_true h
      have hk : keepP (eqF x.nm) (p :: l) = keepP (eqF x.nm) l := by unfold keepP; rw [List.filter_cons_of_neg (by simp [he])]
      rw [if_pos h, hk, ih]
    · have he : eqF x.nm p = false := by rw [eqF_iff]; exact decide_eq_false h
      have hk : keepP (eqF x.nm) (p :: l) = p :: keepP (eqF x.nm) l := by unfold keepP; rw [List.filter_cons_of_pos (by simp [he])]
      rw [if_neg h, hk, fiP]
      by_cases h1 : cmpN p.nm x.nm = 1
      · rw [if_pos ⟨h1, rfl⟩, if_pos (by rw [gtF_eq]; exact decide_eq_true h1), iht]; rfl
      · rw [if_neg (fun q => h1 q.1), if_neg (by rw [gtF_eq]; simp [h1]), ih]
        unfold insP
        rw [List.take_succ_cons, List.drop_succ_cons]; rfl
theorem getU_keep (s : ByteArray) : ∀ l : List Pr, getU (keepP (eqF s) l) s = none
  | [] => rfl
  | p :: l => by
    by_cases he : eqF s p = true
    · unfold keepP; rw [List.filter_cons_of_neg (by simp [he])]; exact getU_keep s l
    · unfold keepP; rw [List.filter_cons_of_pos (by simpa using he), getU, if_neg (show ¬ (p.nm.toList == s.toList) = true from he)]; exact getU_keep s l
theorem getU_none_take (s : ByteArray) : ∀ (l : List Pr) (k : Nat), getU l s = none → getU (l.take k) s = none
  | [], k, h => by rw [List.take_nil]; exact h
  | p :: l, 0, h => rfl
  | p :: l, k + 1, h => by
    rw [List.take_succ_cons, getU]
    rw [getU] at h
    by_cases he : (p.nm.toList == s.toList) = true
    · rw [if_pos he] at h; cases h
    · rw [if_neg he] at h ⊢; exact getU_none_take s l k h
theorem getU_front (s : ByteArray) (x : Pr) (B : List Pr) (hx : x.nm = s) : ∀ A : List Pr, getU A s = none → getU (A ++ x :: B) s = some x.t
  | [], h => by rw [List.nil_append, getU, if_pos (by rw [hx]; simp)]
  | p :: A, h => by
    rw [getU] at h
    rw [List.cons_append, getU]
    by_cases he : (p.nm.toList == s.toList) = true
    · rw [if_pos he] at h; cases h
    · rw [if_neg he] at h ⊢; exact getU_front s x B hx A h
theorem getU_put (l : List Pr) (x : Pr) : getU (putU l x) x.nm = some x.t := by
  unfold putU insP
  exact getU_front x.nm x _ rfl _ (getU_none_take x.nm _ _ (getU_keep x.nm l))
theorem one_lt {a b c : ByteArray} (h1 : cmpN a b = 1) (h2 : cmpN b c = 1) : cmpN a c = 1 := by
  have e1 := linN.anti a b
  have e2 := linN.anti b c
  have e3 := linN.trans c b a (by omega) (by omega)
  have e4 := linN.anti a c
  omega
theorem rgU_cons {prev : Option ByteArray} {p : Pr} {l : List Pr} (h : rgU prev (p :: l) = 0) : rightE p.t = 0 ∧ (∀ q, prev = some q → cmpN p.nm q = 1) ∧ rgU (some p.nm) l = 0 := by
  rw [rgU] at h
  by_cases h1 : rightE p.t = 0
  · rw [if_neg (by omega)] at h
    by_cases h2 : badN prev p.nm = true
    · rw [if_pos h2] at h; cases h
    · rw [if_neg h2] at h
      refine ⟨h1, fun q hq => ?_, h⟩
      subst hq
      by_cases h3 : cmpN p.nm q = 1
      · exact h3
      · exact absurd (show badN (some q) p.nm = true from decide_eq_true h3) h2
  · rw [if_pos h1] at h; exact absurd h h1
theorem rgU_mk {prev : Option ByteArray} {p : Pr} {l : List Pr} (h1 : rightE p.t = 0) (h2 : ∀ q, prev = some q → cmpN p.nm q = 1) (h3 : rgU (some p.nm) l = 0) : rgU prev (p :: l) = 0 := by
  rw [rgU, if_neg (by omega), if_neg, h3]
  cases prev with
  | none => simp [badN]
  | some q => show ¬ decide (cmpN p.nm q ≠ 1) = true; simp [h2 q rfl]
theorem rgU_less {prev : Option ByteArray} {q : ByteArray} : ∀ {l : List Pr}, rgU (some q) l = 0 → (∀ r, prev = some r → cmpN q r = 1) → rgU prev l = 0
  | [], h, _ => by rw [rgU]
  | p :: l, h, hq => by
    obtain ⟨h1, h2, h3⟩ := rgU_cons h
    exact rgU_mk h1 (fun r hr => one_lt (h2 q rfl) (hq r hr)) h3
theorem putR_id (x : Pr) : ∀ (l : List Pr) (q : ByteArray), rgU (some q) l = 0 → cmpN q x.nm = 1 → putR x true l = l
  | [], q, _, _ => rfl
  | p :: l, q, h, hq => by
    obtain ⟨h1, h2, h3⟩ := rgU_cons h
    have hp := one_lt (h2 q rfl) hq
    rw [putR, if_neg (by omega), if_neg (by simp), putR_id x l p.nm h3 hp]
theorem rgU_putR (x : Pr) (hx : rightE x.t = 0) : ∀ (l : List Pr) (prev : Option ByteArray), rgU prev l = 0 → (∀ q, prev = some q → cmpN x.nm q = 1) → rgU prev (putR x false l) = 0
  | [], prev, h, hq => rgU_mk hx hq (by rw [rgU])
  | p :: l, prev, h, hq => by
    obtain ⟨h1, h2, h3⟩ := rgU_cons h
    rw [putR]
    by_cases hc : cmpN p.nm x.nm = 0
    · rw [if_pos hc]; exact rgU_putR x hx l prev (rgU_less h3 h2) hq
    · rw [if_neg hc]
      by_cases hc1 : cmpN p.nm x.nm = 1
      · rw [if_pos ⟨hc1, rfl⟩, putR_id x l p.nm h3 hc1]
        exact rgU_mk hx hq (rgU_mk h1 (fun q e => by injection e with e; rw [← e]; exact hc1) h3)
      · rw [if_neg (fun e => hc1 e.1)]
        refine rgU_mk h1 h2 (rgU_putR x hx l (some p.nm) h3 (fun q e => ?_))
        injection e with e
        have e1 := linN.anti p.nm x.nm
        have e2 := linN.rng p.nm x.nm
        rw [← e]; omega
theorem rgU_one {x : Pr} (h : rgU none [x] = 0) : rightE x.t = 0 := (rgU_cons h).1
theorem rgU_put (l : List Pr) (x : Pr) (h1 : rgU none l = 0) (h2 : rgU none [x] = 0) : rgU none (putU l x) = 0 := by
  rw [← putR_eq]
  exact rgU_putR x (rgU_one h2) l none h1 (fun q e => by cases e)
end Go.Proofs.Ytnodcpifbcabmaa.U
