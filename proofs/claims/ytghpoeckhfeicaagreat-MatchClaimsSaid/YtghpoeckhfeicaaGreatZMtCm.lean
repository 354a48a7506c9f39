/-
  What is proved: matching claims as a function on plain claims (plain mathematics).
-/
import Derived.Test.YtghpoeckhfeicaaGreatZMtG
import Derived.Test.YtghpoeckhfeicaaGreatBC
import Derived.Test.YtghpoeckhfeicaaGreatZSbJ
namespace Go.Proofs.YtghpoeckhfeicaaGreat.Mt
open Go.RowKit L T C B U
set_option linter.unusedVariables false
set_option linter.unusedSimpArgs false

mutual
/-- what turns a claim into another one, beside what is there -/
def matC (X : List ByteArray) : Cl → List Pr → Cl → Option (List Pr)
  | .mk o s z ts cs, l, c =>
    if o = opC c ∧ (o = 11 ∨ o = 12 ∨ s = nmC c) ∧ z = soC c ∧ ts.length = (tsC c).length ∧ cs.length = (subC c).length then
      match mats X ts l (tsC c) with | none => none | some l1 => matCs X cs l1 (subC c)
    else none
def matCs (X : List ByteArray) : List Cl → List Pr → List Cl → Option (List Pr)
  | [], l, _ => some l
  | _ :: _, _, [] => none
  | x :: xs, l, u :: us => match matC X x l u with | none => none | some l' => matCs X xs l' us
end
theorem matC_mk (X : List ByteArray) (p : Cl) (l : List Pr) (c : Cl) : matC X p l c =
    if opC p = opC c ∧ (opC p = 11 ∨ opC p = 12 ∨ nmC p = nmC c) ∧ soC p = soC c ∧ (tsC p).length = (tsC c).length ∧ (subC p).length = (subC c).length then
      match mats X (tsC p) l (tsC c) with | none => none | some l1 => matCs X (subC p) l1 (subC c)
    else none := by
  cases p with | mk o s z ts cs => rw [matC]; rfl
theorem matCs_step {X : List ByteArray} {xs : List Cl} {l : List Pr} {us : List Cl} {k : Nat} {x u : Cl} (h1 : xs[k]? = some x) (h2 : us[k]? = some u) :
    matCs X (xs.drop k) l (us.drop k) = match matC X x l u with | none => none | some l' => matCs X (xs.drop (k + 1)) l' (us.drop (k + 1)) := by
  rw [drop_c h1, drop_c h2, matCs]
mutual
theorem matC_len (X : List ByteArray) : ∀ (p : Cl) (l : List Pr) (c : Cl) (l' : List Pr), matC X p l c = some l' → l'.length ≤ l.length + wt p
  | .mk o s z ts cs, l, c, l', h => by
    rw [matC] at h
    rw [wt]
    split at h
    · split at h
      · cases h
      · rename_i l1 h1
        have a := mats_len X ts l (tsC c) l1 h1
        have b := matCs_len X cs l1 (subC c) l' h
        omega
    · cases h
theorem matCs_len (X : List ByteArray) : ∀ (xs : List Cl) (l : List Pr) (us : List Cl) (l' : List Pr), matCs X xs l us = some l' → l'.length ≤ l.length + wts xs
  | [], l, us, l', h => by rw [matCs] at h; injection h with h; subst h; omega
  | x :: xs, l, [], l', h => by rw [matCs] at h; cases h
  | x :: xs, l, u :: us, l', h => by
    rw [matCs] at h
    rw [wts]
    split at h
    · cases h
    · rename_i l1 h1
      have a := matC_len X x l u l1 h1
      have b := matCs_len X xs l1 us l' h
      omega
end
mutual
theorem matC_good (K : Nat) (X : List ByteArray) : ∀ (p : Cl) (l : List Pr) (c : Cl) (l' : List Pr), matC X p l c = some l' → smC p → wt c ≤ K → good K l → good K l'
  | .mk o s z ts cs, l, c, l', h, hs, ht, hg => by
    rw [smC] at hs
    rw [matC] at h
    have hw : wt c = 1 + sizes (tsC c) + wts (subC c) := by cases c; rw [wt]; rfl
    split at h
    · split at h
      · cases h
      · rename_i l1 h1
        exact matCs_good K X cs l1 (subC c) l' h hs.2 (by omega) (mats_good K X ts l (tsC c) l1 h1 hs.1 (by omega) hg)
    · cases h
theorem matCs_good (K : Nat) (X : List ByteArray) : ∀ (xs : List Cl) (l : List Pr) (us : List Cl) (l' : List Pr), matCs X xs l us = some l' → smCs xs → wts us ≤ K → good K l → good K l'
  | [], l, us, l', h, _, _, hg => by rw [matCs] at h; injection h with h; subst h; exact hg
  | x :: xs, l, [], l', h, _, _, _ => by rw [matCs] at h; cases h
  | x :: xs, l, u :: us, l', h, hs, ht, hg => by
    rw [matCs] at h
    rw [smCs] at hs
    rw [wts] at ht
    split at h
    · cases h
    · rename_i l1 h1
      exact matCs_good K X xs l1 us l' h hs.2 (by omega) (matC_good K X x l u l1 h1 hs.1 (by omega) hg)
end
theorem wt_at : ∀ {l : List Cl} {k : Nat} {x : Cl}, l[k]? = some x → wt x ≤ wts l
  | [], k, x, h => by simp at h
  | c :: l, 0, x, h => by simp at h; subst h; rw [wts]; omega
  | c :: l, k + 1, x, h => by have := wt_at (l := l) (k := k) (by simpa using h); rw [wts]; omega
theorem wt_mk (c : Cl) : wt c = 1 + sizes (tsC c) + wts (subC c) := by cases c; rw [wt]; rfl
end Go.Proofs.YtghpoeckhfeicaaGreat.Mt
