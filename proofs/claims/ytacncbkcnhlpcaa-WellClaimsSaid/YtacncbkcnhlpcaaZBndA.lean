/-
  What is proved: terms and claims in plain words, changed part by part within binders: lifted, opened, closed; the loose numbers. No program is spoken of.
-/
import Derived.Test.YtacncbkcnhlpcaaZClmP
namespace Go.Proofs.Ytacncbkcnhlpcaa.B
open Go.RowKit L T C
set_option linter.unusedVariables false
set_option linter.unusedSimpArgs false

/-- what becomes of a part: another number, and its Args are gone into; another part, without Args; or another term, which is not gone into -/
inductive Nd where
  | go (num : Int)
  | leaf (op : Int) (name : ByteArray) (num : Int)
  | put (t : Tm)
abbrev Fn := Int → Int → ByteArray → Int → Nd
mutual
def wk (f : Fn) (k : Int) : Tm → Tm
  | .mk o s z l => match f k o s z with
    | .go z' => .mk o s z' (wks f k l)
    | .leaf o' s' z' => .mk o' s' z' []
    | .put t => t
def wks (f : Fn) (k : Int) : List Tm → List Tm
  | [] => []
  | t :: l => wk f k t :: wks f k l
end
/-- how many binders lie around a claim's Subs -/
def kin (o k : Int) : Int := if o = 11 ∨ o = 12 then k + 1 else k
mutual
def wkC (f : Fn) (k : Int) : Cl → Cl
  | .mk o s z ts l => .mk o s z (wks f k ts) (wkCs f (kin o k) l)
def wkCs (f : Fn) (k : Int) : List Cl → List Cl
  | [] => []
  | c :: l => wkC f k c :: wkCs f k l
end
theorem wks_map (f : Fn) (k : Int) : ∀ l : List Tm, wks f k l = l.map (wk f k)
  | [] => by rw [wks]; rfl
  | t :: l => by rw [wks, wks_map f k l]; rfl
theorem wkCs_map (f : Fn) (k : Int) : ∀ l : List Cl, wkCs f k l = l.map (wkC f k)
  | [] => by rw [wkCs]; rfl
  | t :: l => by rw [wkCs, wkCs_map f k l]; rfl
theorem wk_mk (f : Fn) (k : Int) (t : Tm) : wk f k t = match f k (opT t) (nameT t) (numT t) with | .go z' => .mk (opT t) (nameT t) z' (wks f k (argsT t)) | .leaf o' s' z' => .mk o' s' z' [] | .put t => t := by
  cases t; rw [wk]; rfl
theorem wkC_mk (f : Fn) (k : Int) (c : Cl) : wkC f k c = .mk (opC c) (nmC c) (soC c) (wks f k (tsC c)) (wkCs f (kin (opC c) k) (subC c)) := by
  cases c; rw [wkC]; rfl
/-- lifted by so much, from so much on -/
def fLift (by_ fr : Int) : Fn := fun k o _ z => if o = 2 ∧ k ≤ z then (if fr ≤ wrap64 (z - k) then .go (wrap64 (max (wrap64 (wrap64 (z - k) + by_)) 0 + k)) else .go z) else .go z
/-- opened with a term -/
def fOpen (t : Tm) : Fn := fun k o _ z => if o = 2 ∧ k ≤ z then (if wrap64 (z - k) = 0 then .put (wk (fLift k 0) 0 t) else .go (wrap64 (z - 1))) else .go z
/-- closed by a name -/
def fClose (name : ByteArray) : Fn := fun k o s z => if o = 1 ∧ s.toList = name.toList then .leaf 2 ⟨#[]⟩ k else if o = 2 ∧ k ≤ z then .go (wrap64 (z + 1)) else .go z
/-! the loose numbers, as they come -/
mutual
def lsT (k : Int) : Tm → List Int
  | .mk o s z l => (if o = 2 ∧ k ≤ z then [wrap64 (z - k)] else []) ++ lsTs k l
def lsTs (k : Int) : List Tm → List Int
  | [] => []
  | t :: l => lsT k t ++ lsTs k l
end
mutual
def lsC (k : Int) : Cl → List Int
  | .mk o s z ts l => lsTs k ts ++ lsCs (kin o k) l
def lsCs (k : Int) : List Cl → List Int
  | [] => []
  | c :: l => lsC k c ++ lsCs k l
end
theorem lsT_mk (k : Int) (t : Tm) : lsT k t = (if opT t = 2 ∧ k ≤ numT t then [wrap64 (numT t - k)] else []) ++ lsTs k (argsT t) := by
  cases t; rw [lsT]; rfl
theorem lsC_mk (k : Int) (c : Cl) : lsC k c = lsTs k (tsC c) ++ lsCs (kin (opC c) k) (subC c) := by
  cases c; rw [lsC]; rfl
theorem lsTs_app (k : Int) (l m : List Tm) : lsTs k (l ++ m) = lsTs k l ++ lsTs k m := by
  induction l with
  | nil => rw [List.nil_append, lsTs]; rfl
  | cons t l ih => rw [List.cons_append, lsTs, lsTs, ih, List.append_assoc]
theorem lsCs_app (k : Int) (l m : List Cl) : lsCs k (l ++ m) = lsCs k l ++ lsCs k m := by
  induction l with
  | nil => rw [List.nil_append, lsCs]; rfl
  | cons t l ih => rw [List.cons_append, lsCs, lsCs, ih, List.append_assoc]
mutual
theorem lsT_len (k : Int) : ∀ t : Tm, (lsT k t).length ≤ size t
  | .mk o s z l => by
    rw [lsT, size, List.length_append]
    have := lsTs_len k l
    split <;> simp <;> omega
theorem lsTs_len (k : Int) : ∀ l : List Tm, (lsTs k l).length ≤ sizes l
  | [] => by rw [lsTs, sizes]; simp
  | t :: l => by rw [lsTs, sizes, List.length_append]; have := lsT_len k t; have := lsTs_len k l; omega
end
mutual
theorem lsC_len : ∀ (c : Cl) (k : Int), (lsC k c).length ≤ wt c
  | .mk o s z ts l, k => by
    rw [lsC, wt, List.length_append]
    have := lsTs_len k ts; have := lsCs_len l (kin o k); omega
theorem lsCs_len : ∀ (l : List Cl) (k : Int), (lsCs k l).length ≤ wts l
  | [], k => by rw [lsCs, wts]; simp
  | t :: l, k => by rw [lsCs, wts, List.length_append]; have := lsC_len t k; have := lsCs_len l k; omega
end
end Go.Proofs.Ytacncbkcnhlpcaa.B
