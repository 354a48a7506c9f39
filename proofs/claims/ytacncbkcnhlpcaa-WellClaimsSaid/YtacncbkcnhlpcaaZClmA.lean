/-
  What is proved: claims in plain words: weight, equality but for the names of binders, exact equality, order; that the order is a total one up to the names of binders. No program is spoken of.
-/
import Derived.Test.YtacncbkcnhlpcaaBL
namespace Go.Proofs.Ytacncbkcnhlpcaa.C
open L T
set_option linter.unusedVariables false
set_option linter.unusedSimpArgs false

inductive Cl where
  | mk (op : Int) (name : ByteArray) (sort : ByteArray) (terms : List Tm) (subs : List Cl)
def opC : Cl → Int | .mk o _ _ _ _ => o
def nmC : Cl → ByteArray | .mk _ s _ _ _ => s
def soC : Cl → ByteArray | .mk _ _ z _ _ => z
def tsC : Cl → List Tm | .mk _ _ _ ts _ => ts
def subC : Cl → List Cl | .mk _ _ _ _ l => l
/-! how many parts, with the terms' parts -/
mutual
def wt : Cl → Nat
  | .mk _ _ _ ts l => 1 + sizes ts + wts l
def wts : List Cl → Nat
  | [] => 0
  | c :: l => wt c + wts l
end
theorem wt_pos : ∀ c : Cl, 0 < wt c
  | .mk _ _ _ _ _ => by rw [wt]; omega
theorem wt_mk (c : Cl) : wt c = 1 + sizes (tsC c) + wts (subC c) := by cases c; rw [wt]; rfl
theorem wts_mem {c : Cl} : ∀ {l : List Cl}, c ∈ l → wt c ≤ wts l
  | [], h => by cases h
  | d :: l, h => by
    rw [wts]
    rcases List.mem_cons.1 h with rfl | h
    · omega
    · have := wts_mem h; omega
theorem wts_len : ∀ l : List Cl, l.length ≤ wts l
  | [] => Nat.le_refl _
  | c :: l => by rw [wts, List.length_cons]; have := wt_pos c; have := wts_len l; omega
theorem Cl.ind {P : Cl → Prop} (h : ∀ c, (∀ x ∈ subC c, P x) → P c) : ∀ c, P c := by
  have : ∀ k c, wt c ≤ k → P c := by
    intro k
    induction k with
    | zero => intro c hc; have := wt_pos c; omega
    | succ k ih => intro c hc; exact h c (fun x hx => ih x (by have := wts_mem hx; have := wt_mk c; omega))
  exact fun c => this _ c (Nat.le_refl _)
/-! counting that stops behind a bound -/
mutual
def wtTo : Nat → Cl → Nat
  | most, .mk _ _ _ ts l => wtTos most (szTos most 1 ts) l
def wtTos : Nat → Nat → List Cl → Nat
  | _, n, [] => n
  | most, n, c :: l => if n ≤ most then wtTos most (n + wtTo (most - n) c) l else n
end
theorem wtTos_ge : ∀ (l : List Cl) (most n : Nat), n ≤ wtTos most n l
  | [], most, n => by rw [wtTos]; exact Nat.le_refl _
  | c :: l, most, n => by
    rw [wtTos]; split
    · have := wtTos_ge l most (n + wtTo (most - n) c); omega
    · exact Nat.le_refl _
theorem szTos_ge : ∀ (l : List Tm) (most n : Nat), n ≤ szTos most n l
  | [], most, n => by rw [szTos]; exact Nat.le_refl _
  | c :: l, most, n => by
    rw [szTos]; split
    · have := szTos_ge l most (n + szTo (most - n) c); omega
    · exact Nat.le_refl _
theorem szTos_le : ∀ (l : List Tm) (most n : Nat), szTos most n l ≤ most → n + sizes l ≤ szTos most n l
  | [], most, n, h => by rw [szTos, sizes]; omega
  | c :: l, most, n, h => by
    rw [szTos] at h ⊢
    rw [sizes]
    by_cases h1 : n ≤ most
    · rw [if_pos h1] at h ⊢
      have h2 := szTos_ge l most (n + szTo (most - n) c)
      have h3 := szTos_le l most _ h
      have h4 : size c ≤ most - n := (szTo_le c (most - n)).1 (by omega)
      have := szTo_small c _ h4
      omega
    · rw [if_neg h1] at h; omega
mutual
theorem wtTo_le : ∀ (c : Cl) (most : Nat), wtTo most c ≤ most → wt c ≤ wtTo most c
  | .mk o s z ts l, most, h => by
    rw [wtTo] at h ⊢
    rw [wt]
    have h1 := wtTos_ge l most (szTos most 1 ts)
    have h2 := szTos_le ts most 1 (by omega)
    have h3 := wtTos_le l most _ h
    omega
theorem wtTos_le : ∀ (l : List Cl) (most n : Nat), wtTos most n l ≤ most → n + wts l ≤ wtTos most n l
  | [], most, n, h => by rw [wtTos, wts]; omega
  | c :: l, most, n, h => by
    rw [wtTos] at h ⊢
    rw [wts]
    by_cases h1 : n ≤ most
    · rw [if_pos h1] at h ⊢
      have h2 := wtTos_ge l most (n + wtTo (most - n) c)
      have h3 := wtTos_le l most _ h
      have h4 := wtTo_le c (most - n) (by omega)
      omega
    · rw [if_neg h1] at h; omega
end
/-! never far beyond the bound -/
theorem szTo_top (t : Tm) (most : Nat) : szTo most t ≤ most + 1 := by
  have : (∀ (t : Tm) (most : Nat), szTo most t ≤ most + 1) := fun t => by
    refine Tm.rec (motive_1 := fun t => ∀ most, szTo most t ≤ most + 1) (motive_2 := fun l => ∀ most n, 1 ≤ n → szTos most n l ≤ max n (most + 1)) ?_ ?_ ?_ t
    · intro o s z l h most; rw [szTo]; have := h most 1 (Nat.le_refl _); omega
    · intro most n _; rw [szTos]; omega
    · intro t l h1 h2 most n hn
      rw [szTos]; split
      · have a := h1 (most - n); have b := h2 most (n + szTo (most - n) t) (by omega); omega
      · omega
  exact this t most
theorem szTos_top : ∀ (l : List Tm) (most n : Nat), szTos most n l ≤ max n (most + 1)
  | [], most, n => by rw [szTos]; omega
  | t :: l, most, n => by
    rw [szTos]; split
    · have a := szTo_top t (most - n); have b := szTos_top l most (n + szTo (most - n) t); omega
    · omega
mutual
theorem wtTo_top : ∀ (c : Cl) (most : Nat), wtTo most c ≤ most + 1
  | .mk o s z ts l, most => by
    rw [wtTo]
    have h1 := szTos_top ts most 1
    have h2 := wtTos_top l most (szTos most 1 ts)
    omega
theorem wtTos_top : ∀ (l : List Cl) (most n : Nat), wtTos most n l ≤ max n (most + 1)
  | [], most, n => by rw [wtTos]; omega
  | c :: l, most, n => by
    rw [wtTos]; split
    · have a := wtTo_top c (most - n); have b := wtTos_top l most (n + wtTo (most - n) c); omega
    · omega
end
/-! equality -/
def bindsC (c : Cl) : Bool := (opC c == 11) || (opC c == 12)
mutual
def eqC : Cl → Cl → Bool
  | .mk o s z ts l, .mk o' s' z' ts' l' => (o == o') && ((z.toList == z'.toList) && (((o == 11) || (o == 12) || (s.toList == s'.toList)) && (eqTs ts ts' && eqCs l l')))
def eqCs : List Cl → List Cl → Bool
  | [], [] => true
  | c :: l, d :: m => eqC c d && eqCs l m
  | [], _ :: _ => false
  | _ :: _, [] => false
end
mutual
def exC : Cl → Cl → Bool
  | .mk o s z ts l, .mk o' s' z' ts' l' => (o == o') && ((z.toList == z'.toList) && ((s.toList == s'.toList) && (eqTs ts ts' && exCs l l')))
def exCs : List Cl → List Cl → Bool
  | [], [] => true
  | c :: l, d :: m => exC c d && exCs l m
  | [], _ :: _ => false
  | _ :: _, [] => false
end
mutual
theorem exC_iff : ∀ {c d : Cl}, exC c d = true ↔ c = d
  | .mk o s z ts l, .mk o' s' z' ts' l' => by
    rw [exC, Bool.and_eq_true, Bool.and_eq_true, Bool.and_eq_true, Bool.and_eq_true, beq_iff_eq, eqS_iff, eqS_iff, eqTs_iff, exCs_iff]
    simp only [Cl.mk.injEq]
    constructor
    · rintro ⟨h1, h2, h3, h4, h5⟩; exact ⟨h1, h3, h2, h4, h5⟩
    · rintro ⟨h1, h2, h3, h4, h5⟩; exact ⟨h1, h3, h2, h4, h5⟩
theorem exCs_iff : ∀ {l m : List Cl}, exCs l m = true ↔ l = m
  | [], [] => by simp [exCs]
  | t :: l, u :: m => by rw [exCs, Bool.and_eq_true, exC_iff, exCs_iff]; simp
  | [], _ :: _ => by simp [exCs]
  | _ :: _, [] => by simp [exCs]
end
theorem exC_refl (c : Cl) : exC c c = true := exC_iff.2 rfl
theorem eqCs_len : ∀ {l m : List Cl}, l.length ≠ m.length → eqCs l m = false
  | [], [], h => absurd rfl h
  | [], _ :: _, _ => rfl
  | _ :: _, [], _ => rfl
  | c :: l, d :: m, h => by rw [eqCs, eqCs_len (fun e => h (by simp [e])), Bool.and_false]
theorem exCs_len : ∀ {l m : List Cl}, l.length ≠ m.length → exCs l m = false
  | [], [], h => absurd rfl h
  | [], _ :: _, _ => rfl
  | _ :: _, [], _ => rfl
  | c :: l, d :: m, h => by rw [exCs, exCs_len (fun e => h (by simp [e])), Bool.and_false]
theorem eqC_mk (c d : Cl) : eqC c d = ((opC c == opC d) && (((soC c).toList == (soC d).toList) && (((opC c == 11) || (opC c == 12) || ((nmC c).toList == (nmC d).toList)) && (eqTs (tsC c) (tsC d) && eqCs (subC c) (subC d))))) := by
  cases c; cases d; rw [eqC]; rfl
theorem exC_mk (c d : Cl) : exC c d = ((opC c == opC d) && (((soC c).toList == (soC d).toList) && (((nmC c).toList == (nmC d).toList) && (eqTs (tsC c) (tsC d) && exCs (subC c) (subC d))))) := by
  cases c; cases d; rw [exC]; rfl
/-! order -/
def nmKey (o : Int) (s : ByteArray) : ByteArray := if o = 11 ∨ o = 12 then ⟨#[]⟩ else s
def cmpTL (l m : List Tm) : Int := lex (cmpI l.length m.length) (cmpTs l m)
theorem cmpTL_mk (l m : List Tm) : cmpTL l m = cmpT (.mk 0 ⟨#[]⟩ 0 l) (.mk 0 ⟨#[]⟩ 0 m) := by
  rw [cmpT, (linI.eq _ _).2 rfl, (linN.eq _ _).2 rfl]; simp [zero_lex, cmpTL]
theorem linTL : Lin cmpTL := by
  refine ⟨fun x y => ?_, fun x y => ?_, fun x y => ?_, fun x y z h1 h2 => ?_⟩
  · rw [cmpTL_mk]; exact linT.rng _ _
  · rw [cmpTL_mk, cmpTL_mk]; exact linT.anti _ _
  · rw [cmpTL_mk, linT.eq]; simp
  · rw [cmpTL_mk] at *; exact linT.trans _ _ _ h1 h2
abbrev KeyC := Int × ByteArray × ByteArray × List Tm × Int
def cmpKC : KeyC → KeyC → Int := lexP cmpI (lexP cmpN (lexP cmpN (lexP cmpTL cmpI)))
theorem linKC : Lin cmpKC := linP linI (linP linN (linP linN (linP linTL linI)))
mutual
def keysC : Cl → List KeyC
  | .mk o s z ts l => (o, nmKey o s, z, ts, (l.length : Int)) :: keysCs l
def keysCs : List Cl → List KeyC
  | [] => []
  | t :: l => keysC t ++ keysCs l
end
mutual
def cmpC : Cl → Cl → Int
  | .mk o s z ts l, .mk o' s' z' ts' l' => lex (cmpI o o') (lex (cmpN (nmKey o s) (nmKey o' s')) (lex (cmpN z z') (lex (cmpTL ts ts') (lex (cmpI l.length l'.length) (cmpCs l l')))))
def cmpCs : List Cl → List Cl → Int
  | [], _ => 0
  | _ :: _, [] => 0
  | t :: l, u :: m => lex (cmpC t u) (cmpCs l m)
end
mutual
theorem cmpC_keys : ∀ (t u : Cl) (xs ys : List KeyC), lexL cmpKC (keysC t ++ xs) (keysC u ++ ys) = lex (cmpC t u) (lexL cmpKC xs ys)
  | .mk o s z ts l, .mk o' s' z' ts' l', xs, ys => by
    rw [keysC, keysC, List.cons_append, List.cons_append, lexL, cmpC]
    show lex (lex (cmpI o o') (lex (cmpN (nmKey o s) (nmKey o' s')) (lex (cmpN z z') (lex (cmpTL ts ts') (cmpI l.length l'.length))))) _ = _
    simp only [lex_assoc]
    by_cases hl : l.length = l'.length
    · rw [cmpCs_keys l l' hl xs ys]
    · have h1 : cmpI l.length l'.length ≠ 0 := fun h => hl (by have := (linI.eq _ _).1 h; omega)
      have e : ∀ y z : Int, lex (cmpI l.length l'.length) y = lex (cmpI l.length l'.length) z := fun y z => by unfold lex; rw [if_pos h1, if_pos h1]
      rw [e _ (lex (cmpCs l l') (lexL cmpKC xs ys))]
theorem cmpCs_keys : ∀ (l m : List Cl), l.length = m.length → ∀ (xs ys : List KeyC), lexL cmpKC (keysCs l ++ xs) (keysCs m ++ ys) = lex (cmpCs l m) (lexL cmpKC xs ys)
  | [], [], _, xs, ys => by rw [cmpCs, zero_lex]; rfl
  | t :: l, u :: m, h, xs, ys => by
    rw [keysCs, keysCs, List.append_assoc, List.append_assoc, cmpC_keys t u, cmpCs_keys l m (by simpa using h), cmpCs, lex_assoc]
  | [], _ :: _, h, _, _ => by simp at h
  | _ :: _, [], h, _, _ => by simp at h
end
theorem cmpC_key (t u : Cl) : cmpC t u = lexL cmpKC (keysC t) (keysC u) := by
  have := cmpC_keys t u [] []
  rw [List.append_nil, List.append_nil, lexL, lex_zero] at this
  exact this.symm
theorem linC : Lin (lexL cmpKC) := linL linKC
theorem nmKey_eq (o : Int) (s s' : ByteArray) : nmKey o s = nmKey o s' ↔ ((o == 11) || (o == 12) || (s.toList == s'.toList)) = true := by
  unfold nmKey
  rw [Bool.or_eq_true, Bool.or_eq_true, beq_iff_eq, beq_iff_eq, eqS_iff]
  by_cases h : o = 11 ∨ o = 12
  · simp [h]
  · simp [h]
theorem cmpTL_zero (l m : List Tm) : cmpTL l m = 0 ↔ eqTs l m = true := by rw [linTL.eq, eqTs_iff]
mutual
theorem cmpC_zero : ∀ (t u : Cl), cmpC t u = 0 ↔ eqC t u = true
  | .mk o s z ts l, .mk o' s' z' ts' l' => by
    rw [cmpC, eqC, lex_eq, lex_eq, lex_eq, lex_eq, lex_eq, linI.eq, linN.eq, linN.eq, linI.eq, Bool.and_eq_true, Bool.and_eq_true, Bool.and_eq_true, Bool.and_eq_true, beq_iff_eq, eqS_iff, cmpTL_zero]
    constructor
    · rintro ⟨rfl, h2, rfl, h4, h5, h6⟩
      exact ⟨rfl, rfl, (nmKey_eq _ _ _).1 h2, h4, (cmpCs_zero l l' (by omega)).1 h6⟩
    · rintro ⟨rfl, rfl, h3, h4, h5⟩
      have hl : l.length = l'.length := by
        refine Decidable.byContradiction fun h => ?_
        rw [eqCs_len h] at h5; cases h5
      exact ⟨rfl, (nmKey_eq _ _ _).2 h3, rfl, h4, by omega, (cmpCs_zero l l' hl).2 h5⟩
theorem cmpCs_zero : ∀ (l m : List Cl), l.length = m.length → (cmpCs l m = 0 ↔ eqCs l m = true)
  | [], [], _ => by simp [cmpCs, eqCs]
  | t :: l, u :: m, h => by rw [cmpCs, eqCs, lex_eq, Bool.and_eq_true, cmpC_zero t u, cmpCs_zero l m (by simpa using h)]
  | [], _ :: _, h => by simp at h
  | _ :: _, [], h => by simp at h
end
theorem eqC_cmp (t u : Cl) : eqC t u = (cmpC t u == 0) := by rw [Bool.eq_iff_iff, beq_iff_eq, cmpC_zero]
theorem cmpC_mk (c d : Cl) : cmpC c d = lex (cmpI (opC c) (opC d)) (lex (cmpN (nmKey (opC c) (nmC c)) (nmKey (opC d) (nmC d))) (lex (cmpN (soC c) (soC d)) (lex (cmpTL (tsC c) (tsC d)) (lex (cmpI (subC c).length (subC d).length) (cmpCs (subC c) (subC d)))))) := by
  cases c; cases d; rw [cmpC]; rfl
theorem cmpC_rng (c d : Cl) : cmpC c d = -1 ∨ cmpC c d = 0 ∨ cmpC c d = 1 := by rw [cmpC_key]; exact linC.rng _ _
theorem cmpC_anti (c d : Cl) : cmpC d c = - cmpC c d := by rw [cmpC_key, cmpC_key]; exact linC.anti _ _
theorem cmpC_self (c : Cl) : cmpC c c = 0 := by rw [cmpC_key, linC.eq]
end Go.Proofs.Ytacncbkcnhlpcaa.C
