/-
  What is proved: right terms and claims in plain words: the first error of a claim, its depth; what a claim without error looks like. No program is spoken of.
-/
import Derived.Test.YtacncbkcnhlpcaaZClmA
import Derived.Test.YtacncbkcnhlpcaaZBndU
namespace Go.Proofs.Ytacncbkcnhlpcaa.C
open L T
set_option linter.unusedVariables false
set_option linter.unusedSimpArgs false

theorem depth_argsR (t : Tm) : depth t = 1 + depths (argsT t) := by cases t; rw [depth]; rfl
theorem depths_appR (l m : List Tm) : depths (l ++ m) = max (depths l) (depths m) := by
  induction l with
  | nil => rw [List.nil_append, depths]; omega
  | cons t l ih => rw [List.cons_append, depths, depths, ih]; omega
theorem depths_takeR {x : Tm} {l : List Tm} {k : Nat} (h : l[k]? = some x) : depths (l.take (k + 1)) = max (depths (l.take k)) (depth x) := by
  rw [take_t h, depths_appR, depths, depths]; omega
mutual
def dpC : Cl → Nat
  | .mk _ _ _ _ l => 1 + dpCs l
def dpCs : List Cl → Nat
  | [] => 0
  | c :: l => max (dpC c) (dpCs l)
end
theorem dpC_mk (c : Cl) : dpC c = 1 + dpCs (subC c) := by cases c; rw [dpC]; rfl
theorem dpCs_app (l m : List Cl) : dpCs (l ++ m) = max (dpCs l) (dpCs m) := by
  induction l with
  | nil => rw [List.nil_append, dpCs]; omega
  | cons t l ih => rw [List.cons_append, dpCs, dpCs, ih]; omega
theorem dpCs_take {x : Cl} {l : List Cl} {k : Nat} (h : l[k]? = some x) : dpCs (l.take (k + 1)) = max (dpCs (l.take k)) (dpC x) := by
  rw [take_c h, dpCs_app, dpCs, dpCs]; omega
mutual
theorem dpC_wt : ∀ c : Cl, dpC c ≤ wt c
  | .mk o s z ts l => by rw [dpC, wt]; have := dpCs_wts l; omega
theorem dpCs_wts : ∀ l : List Cl, dpCs l ≤ wts l
  | [] => Nat.le_refl _
  | t :: l => by rw [dpCs, wts]; have := dpC_wt t; have := dpCs_wts l; omega
end
def rightsE : List Tm → Int
  | [] => 0
  | t :: l => if rightE t ≠ 0 then rightE t else rightsE l
def formC (o : Int) (s z : ByteArray) : Bool := (decide (o < 1) || decide (12 < o)) || (((o != 11 && (o != 12 && o != 3)) && !s.toList.isEmpty) || ((o != 11 && o != 12) && !z.toList.isEmpty))
def wantT (o : Int) : Nat := if o = 4 ∨ o = 5 then 2 else 0
def wantS (o : Int) : Nat := if o = 6 ∨ o = 11 ∨ o = 12 then 1 else if 7 ≤ o ∧ o ≤ 10 then 2 else 0
def arityC (o : Int) (nt ns : Nat) : Bool := if o = 3 then decide (8 < nt) || ns != 0 else nt != wantT o || ns != wantS o
mutual
def cpartE : Cl → Int
  | .mk o s z ts l => if formC o s z = true then 7 else if arityC o ts.length l.length = true then 12 else if rightsE ts ≠ 0 then rightsE ts else cpartsE l
def cpartsE : List Cl → Int
  | [] => 0
  | c :: l => if cpartE c ≠ 0 then cpartE c else cpartsE l
end
theorem cpartE_mk (c : Cl) : cpartE c = if formC (opC c) (nmC c) (soC c) = true then 7 else if arityC (opC c) (tsC c).length (subC c).length = true then 12 else if rightsE (tsC c) ≠ 0 then rightsE (tsC c) else cpartsE (subC c) := by cases c; rw [cpartE]; rfl
theorem partE_mk (t : Tm) : partE t = if formB (opT t) (nameT t) (numT t) = true then 7 else if arityB (opT t) (argsT t).length = true then 12 else partsE (argsT t) := by cases t; rw [partE]; rfl
def crightE (c : Cl) : Int := if 64 < dpC c then 6 else if 4096 < wt c then 2 else cpartE c

/-! numbers of TBounds below 2^62 -/
mutual
def smallT : Tm → Bool
  | .mk o _ z l => smallTs l && (o != 2 || decide (z < 4611686018427387904))
def smallTs : List Tm → Bool
  | [] => true
  | t :: l => smallT t && smallTs l
end
mutual
def smallC : Cl → Bool
  | .mk _ _ _ ts l => smallTs ts && smallCs l
def smallCs : List Cl → Bool
  | [] => true
  | c :: l => smallC c && smallCs l
end
theorem smallT_mk (t : Tm) : smallT t = (smallTs (argsT t) && (opT t != 2 || decide (numT t < 4611686018427387904))) := by cases t; rw [smallT]; rfl
theorem smallC_mk (c : Cl) : smallC c = (smallTs (tsC c) && smallCs (subC c)) := by cases c; rw [smallC]; rfl
open B in
mutual
theorem plain_of : ∀ t : Tm, partE t = 0 → smallT t = true → plainT t
  | .mk o s z l, h, hs => by
    rw [partE] at h
    rw [smallT, Bool.and_eq_true] at hs
    by_cases h1 : formB o s z = true
    · rw [if_pos h1] at h; omega
    · rw [if_neg h1] at h
      by_cases h2 : arityB o l.length = true
      · rw [if_pos h2] at h; omega
      · rw [if_neg h2] at h
        rw [plainT]
        have e0 : (argsI o = 0) → l = [] := fun e => by
          simp only [arityB, e, Bool.or_eq_true, Bool.and_eq_true, decide_eq_true_eq, not_or, not_and, bne_iff_ne, ne_eq, Decidable.not_not] at h2
          have := h2.1 (Int.le_refl _)
          exact List.eq_nil_of_length_eq_zero (by omega)
        refine ⟨fun e => ?_, fun e => ?_, plains_of l h hs.1⟩
        · subst e
          simp [formB] at h1
          have hz := hs.2
          simp at hz
          refine ⟨by omega, hz, ?_, e0 (by simp [argsI])⟩
          have := h1.2
          exact eqS_iff.1 (by rw [this]; show (([] : List UInt8) == (BA []).toList) = true; rw [BA_toList]; rfl)
        · subst e
          simp [formB] at h1
          exact ⟨by omega, e0 (by simp [argsI])⟩
theorem plains_of : ∀ l : List Tm, partsE l = 0 → smallTs l = true → plainTs l
  | [], _, _ => by rw [plainTs]; trivial
  | t :: l, h, hs => by
    rw [partsE] at h
    rw [smallTs, Bool.and_eq_true] at hs
    rw [plainTs]
    by_cases h1 : partE t ≠ 0
    · rw [if_pos h1] at h; exact absurd h h1
    · rw [if_neg h1] at h
      exact ⟨plain_of t (by omega) hs.1, plains_of l h hs.2⟩
end
theorem right_part {t : Tm} (h : rightE t = 0) : partE t = 0 := by
  unfold rightE at h
  by_cases h1 : 64 < depth t
  · rw [if_pos h1] at h; omega
  · rw [if_neg h1] at h
    by_cases h2 : 4096 < size t
    · rw [if_pos h2] at h; omega
    · rw [if_neg h2] at h; exact h
open B in
theorem plains_right : ∀ l : List Tm, rightsE l = 0 → smallTs l = true → plainTs l
  | [], _, _ => by rw [plainTs]; trivial
  | t :: l, h, hs => by
    rw [rightsE] at h
    rw [smallTs, Bool.and_eq_true] at hs
    rw [plainTs]
    by_cases h1 : rightE t ≠ 0
    · rw [if_pos h1] at h; exact absurd h h1
    · rw [if_neg h1] at h
      exact ⟨plain_of t (right_part (by omega)) hs.1, plains_right l h hs.2⟩
open B in
mutual
theorem plainC_of : ∀ c : Cl, cpartE c = 0 → smallC c = true → plainC c
  | .mk o s z ts l, h, hs => by
    rw [cpartE] at h
    rw [smallC, Bool.and_eq_true] at hs
    rw [plainC]
    by_cases h1 : formC o s z = true
    · rw [if_pos h1] at h; omega
    · rw [if_neg h1] at h
      by_cases h2 : arityC o ts.length l.length = true
      · rw [if_pos h2] at h; omega
      · rw [if_neg h2] at h
        by_cases h3 : rightsE ts ≠ 0
        · rw [if_pos h3] at h; exact absurd h h3
        · rw [if_neg h3] at h
          exact ⟨plains_right ts (by omega) hs.1, plainCs_of l h hs.2⟩
theorem plainCs_of : ∀ l : List Cl, cpartsE l = 0 → smallCs l = true → plainCs l
  | [], _, _ => by rw [plainCs]; trivial
  | c :: l, h, hs => by
    rw [cpartsE] at h
    rw [smallCs, Bool.and_eq_true] at hs
    rw [plainCs]
    by_cases h1 : cpartE c ≠ 0
    · rw [if_pos h1] at h; exact absurd h h1
    · rw [if_neg h1] at h
      exact ⟨plainC_of c (by omega) hs.1, plainCs_of l h hs.2⟩
end
open B in
theorem plain_right {c : Cl} (h : crightE c = 0) (hs : smallC c = true) : plainC c := by
  unfold crightE at h
  by_cases h1 : 64 < dpC c
  · rw [if_pos h1] at h; omega
  · rw [if_neg h1] at h
    by_cases h2 : 4096 < wt c
    · rw [if_pos h2] at h; omega
    · rw [if_neg h2] at h; exact plainC_of c h hs

/-! the names of variables -/
mutual
def nmsT : Tm → List ByteArray
  | .mk o s _ l => (if o = 1 then [s] else []) ++ nmsTs l
def nmsTs : List Tm → List ByteArray
  | [] => []
  | t :: l => nmsT t ++ nmsTs l
end
mutual
def nmsC : Cl → List ByteArray
  | .mk _ _ _ ts l => nmsTs ts ++ nmsCs l
def nmsCs : List Cl → List ByteArray
  | [] => []
  | c :: l => nmsC c ++ nmsCs l
end
theorem nmsT_mk (t : Tm) : nmsT t = (if opT t = 1 then [nameT t] else []) ++ nmsTs (argsT t) := by cases t; rw [nmsT]; rfl
theorem nmsC_mk (c : Cl) : nmsC c = nmsTs (tsC c) ++ nmsCs (subC c) := by cases c; rw [nmsC]; rfl
theorem nmsTs_app (l m : List Tm) : nmsTs (l ++ m) = nmsTs l ++ nmsTs m := by
  induction l with
  | nil => rfl
  | cons t l ih => rw [List.cons_append, nmsTs, nmsTs, ih, List.append_assoc]
theorem nmsCs_app (l m : List Cl) : nmsCs (l ++ m) = nmsCs l ++ nmsCs m := by
  induction l with
  | nil => rfl
  | cons t l ih => rw [List.cons_append, nmsCs, nmsCs, ih, List.append_assoc]
theorem nmsTs_step {x : Tm} {l : List Tm} {k : Nat} (h : l[k]? = some x) : nmsTs (l.take (k + 1)) = nmsTs (l.take k) ++ nmsT x := by
  rw [take_t h, nmsTs_app, nmsTs, nmsTs, List.append_nil]
theorem nmsCs_step {x : Cl} {l : List Cl} {k : Nat} (h : l[k]? = some x) : nmsCs (l.take (k + 1)) = nmsCs (l.take k) ++ nmsC x := by
  rw [take_c h, nmsCs_app, nmsCs, nmsCs, List.append_nil]
mutual
theorem nmsT_len : ∀ t : Tm, (nmsT t).length ≤ size t
  | .mk o s z l => by rw [nmsT, size, List.length_append]; have := nmsTs_len l; split <;> simp <;> omega
theorem nmsTs_len : ∀ l : List Tm, (nmsTs l).length ≤ sizes l
  | [] => Nat.le_refl _
  | t :: l => by rw [nmsTs, sizes, List.length_append]; have := nmsT_len t; have := nmsTs_len l; omega
end
mutual
theorem nmsC_len : ∀ t : Cl, (nmsC t).length ≤ wt t
  | .mk o s z ts l => by rw [nmsC, wt, List.length_append]; have := nmsTs_len ts; have := nmsCs_len l; omega
theorem nmsCs_len : ∀ l : List Cl, (nmsCs l).length ≤ wts l
  | [] => Nat.le_refl _
  | t :: l => by rw [nmsCs, wts, List.length_append]; have := nmsC_len t; have := nmsCs_len l; omega
end
def putsN : List ByteArray → List ByteArray → List ByteArray
  | X, [] => X
  | X, y :: l => putsN (putN y X) l
theorem putsN_app : ∀ (l m X : List ByteArray), putsN X (l ++ m) = putsN (putsN X l) m
  | [], m, X => rfl
  | y :: l, m, X => by rw [List.cons_append, putsN, putsN, putsN_app l m]
theorem mem_putsN (x : ByteArray) : ∀ (l X : List ByteArray), x ∈ putsN X l ↔ x ∈ X ∨ x ∈ l
  | [], X => by rw [putsN]; simp
  | y :: l, X => by
    rw [putsN, mem_putsN x l, mem_put, List.mem_cons]
    constructor
    · rintro ((h | h) | h)
      · exact .inr (.inl h)
      · exact .inl h
      · exact .inr (.inr h)
    · rintro (h | h | h)
      · exact .inl (.inr h)
      · exact .inl (.inl h)
      · exact .inr h
theorem up_putsN : ∀ (l X : List ByteArray), Up X → Up (putsN X l)
  | [], X, h => h
  | y :: l, X, h => by rw [putsN]; exact up_putsN l _ (up_put y X h)
theorem putN_len (s : ByteArray) : ∀ X : List ByteArray, (putN s X).length ≤ X.length + 1
  | [] => by simp [putN]
  | x :: X => by
    rw [putN]; split
    · simp
    · split
      · simp
      · have := putN_len s X; simp; omega
theorem putsN_len : ∀ (l X : List ByteArray), (putsN X l).length ≤ X.length + l.length
  | [], X => by rw [putsN]; simp
  | y :: l, X => by rw [putsN]; have h1 := putsN_len l (putN y X); have h2 := putN_len y X; simp; omega
open B in
mutual
theorem fresh_of (name : ByteArray) : ∀ t : Tm, name ∉ nmsT t → freshT name t
  | .mk o s z l, h => by
    rw [nmsT, List.mem_append, not_or] at h
    rw [freshT]
    refine ⟨fun e => h.1 ?_, freshs_of name l h.2⟩
    rw [if_pos e.1, List.mem_singleton]
    exact (eqS_iff.1 (beq_iff_eq.2 e.2)).symm
theorem freshs_of (name : ByteArray) : ∀ l : List Tm, name ∉ nmsTs l → freshTs name l
  | [], _ => by rw [freshTs]; trivial
  | t :: l, h => by
    rw [nmsTs, List.mem_append, not_or] at h
    rw [freshTs]
    exact ⟨fresh_of name t h.1, freshs_of name l h.2⟩
end
open B in
mutual
theorem freshC_of (name : ByteArray) : ∀ t : Cl, name ∉ nmsC t → freshC name t
  | .mk o s z ts l, h => by
    rw [nmsC, List.mem_append, not_or] at h
    rw [freshC]
    exact ⟨freshs_of name ts h.1, freshCs_of name l h.2⟩
theorem freshCs_of (name : ByteArray) : ∀ l : List Cl, name ∉ nmsCs l → freshCs name l
  | [], _ => by rw [freshCs]; trivial
  | t :: l, h => by
    rw [nmsCs, List.mem_append, not_or] at h
    rw [freshCs]
    exact ⟨freshC_of name t h.1, freshCs_of name l h.2⟩
end
end Go.Proofs.Ytacncbkcnhlpcaa.C
