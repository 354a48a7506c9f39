/-
  What is proved: matching as a function on plain terms; rising lists of pairs with one more (plain mathematics).
-/
import Derived.Test.YtnodcpifbcabmaaBM
import Derived.Test.YtnodcpifbcabmaaBR
namespace Go.Proofs.Ytnodcpifbcabmaa.Mt
open Go.RowKit L T C B U
set_option linter.unusedVariables false
set_option linter.unusedSimpArgs false

mutual
/-- has it a bound number? -/
def bdT : Tm → Bool
  | .mk o _ _ l => o == 2 || bdTs l
def bdTs : List Tm → Bool
  | [] => false
  | t :: l => bdT t || bdTs l
end
/-- may it stand for a variable? -/
def mayT (t : Tm) : Bool := decide (rightE t = 0) && !bdT t
/-- a pair put among rising names -/
def putL : List Pr → Pr → List Pr
  | [], x => [x]
  | p :: l, x => if cmpN p.nm x.nm < 0 then p :: putL l x else x :: p :: l
mutual
/-- what turns a pattern into a term, beside what is there -/
def mat (vs : List ByteArray) : Tm → List Pr → Tm → Option (List Pr)
  | .mk o s z xs, l, t =>
    if o = 1 ∧ hasS vs s = true then
      match getU l s with
      | some u => if eqT u t then some l else none
      | none => if mayT t then some (putL l ⟨s, t⟩) else none
    else if o = opT t ∧ s = nameT t ∧ z = numT t ∧ xs.length = (argsT t).length then mats vs xs l (argsT t) else none
def mats (vs : List ByteArray) : List Tm → List Pr → List Tm → Option (List Pr)
  | [], l, _ => some l
  | _ :: _, _, [] => none
  | x :: xs, l, u :: us => match mat vs x l u with | none => none | some l' => mats vs xs l' us
end
theorem putL_len : ∀ (l : List Pr) (x : Pr), (putL l x).length = l.length + 1
  | [], x => rfl
  | p :: l, x => by
    rw [putL]
    split
    · rw [List.length_cons, putL_len l x, List.length_cons]
    · rfl
theorem nm_eq {x y : ByteArray} : (x.toList == y.toList) = true ↔ x = y := eqS_iff
theorem putL_get {x : Pr} (s : ByteArray) : ∀ {l : List Pr}, getU l x.nm = none → getU (putL l x) s = if x.nm.toList == s.toList then some x.t else getU l s
  | [], _ => by rw [putL, getU, getU, getU]
  | p :: l, h => by
    rw [getU] at h
    have hp : ¬ (p.nm.toList == x.nm.toList) = true := fun e => by rw [if_pos e] at h; cases h
    rw [if_neg hp] at h
    rw [putL]
    split
    · rw [getU, putL_get s h]
      by_cases e1 : (p.nm.toList == s.toList) = true
      · have e2 : ¬ (x.nm.toList == s.toList) = true := fun e2 => hp (nm_eq.2 ((nm_eq.1 e1).trans (nm_eq.1 e2).symm))
        rw [if_pos e1, if_neg e2, getU, if_pos e1]
      · rw [if_neg e1]
        conv => rhs; rw [getU, if_neg e1]
    · rw [getU]
/-- the same names, the same terms as with the pair in front -/
theorem putL_front {x : Pr} {l : List Pr} (h : getU l x.nm = none) (s : ByteArray) : getU (putL l x) s = getU (x :: l) s := by rw [putL_get s h, getU]
theorem putL_mem {x : Pr} : ∀ {l : List Pr} {p : Pr}, p ∈ putL l x ↔ p = x ∨ p ∈ l
  | [], p => by rw [putL]; simp
  | q :: l, p => by
    rw [putL]
    split
    · rw [List.mem_cons, putL_mem, List.mem_cons]
      constructor
      · rintro (h | h | h)
        · exact .inr (.inl h)
        · exact .inl h
        · exact .inr (.inr h)
      · rintro (h | h | h)
        · exact .inr (.inl h)
        · exact .inl h
        · exact .inr (.inr h)
    · rw [List.mem_cons, List.mem_cons]
/-- names that rise, by pairs -/
def rises : List Pr → Prop
  | [] => True
  | [_] => True
  | p :: q :: l => cmpN p.nm q.nm < 0 ∧ rises (q :: l)
theorem putL_rises {x : Pr} : ∀ {l : List Pr}, getU l x.nm = none → rises l → rises (putL l x)
  | [], _, _ => by rw [putL]; trivial
  | [p], h, _ => by
    rw [getU] at h
    have hp : ¬ (p.nm.toList == x.nm.toList) = true := fun e => by rw [if_pos e] at h; cases h
    rw [putL]
    split
    · rename_i hc; rw [putL]; exact ⟨hc, trivial⟩
    · rename_i hc
      refine ⟨?_, trivial⟩
      have h1 := linN.anti x.nm p.nm
      have h2 : cmpN p.nm x.nm ≠ 0 := fun e => hp (nm_eq.2 ((linN.eq _ _).1 e))
      omega
  | p :: q :: l, h, hr => by
    rw [getU] at h
    have hp : ¬ (p.nm.toList == x.nm.toList) = true := fun e => by rw [if_pos e] at h; cases h
    rw [if_neg hp] at h
    have ih := putL_rises (l := q :: l) h hr.2
    rw [putL]
    split
    · rename_i hc
      rw [putL] at ih ⊢
      split
      · rename_i hd; rw [if_pos hd] at ih; exact ⟨hr.1, ih⟩
      · rename_i hd; rw [if_neg hd] at ih; exact ⟨hc, ih⟩
    · rename_i hc
      refine ⟨?_, hr⟩
      have h1 := linN.anti x.nm p.nm
      have h2 : cmpN p.nm x.nm ≠ 0 := fun e => hp (nm_eq.2 ((linN.eq _ _).1 e))
      omega
end Go.Proofs.Ytnodcpifbcabmaa.Mt
