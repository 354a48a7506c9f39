/-
  What is proved: claims in plain words: weight, equality but for the names of binders, exact equality, order; that the order is a total one up to the names of binders. No program is spoken of.
  What is proved: claims in memory: how a slice of claims reads as a list of trees, what keeps it; a claim put into a block; rows of claims of the call's own; claims in new memory.
  What is proved: stores of a claim into a row; claims in new memory: each in blocks of its own.
  What is proved: claims read in blocks of a given kind, which stand when those blocks stand.
  What is proved: what package claim's Copy returns: the same claim in new memory.
-/
import Derived.Test.YteidknjhponpkaaBL
import Derived.Test.YteidknjhponpkaaBT
import Derived.Laws.MakeOwn
namespace Go.Proofs.Yteidknjhponpkaa.C
open L T
set_option linter.unusedVariables false
set_option linter.unusedSimpArgs false

inductive Cl where
  | mk (op : Int) (name : ByteArray) (sort : ByteArray) (terms : List Tm) (subs : List Cl)
def opC : Cl → Int | .mk o _ _ _ _ => o
def nmC : Cl → ByteArray | .mk _ s _ _ _ => s
def soC : Cl → ByteArray | .mk _ _ z _ _ => z
def tsC : Cl → List Tm | .mk _ _ _ ts _ => ts
def subC : Cl → List Cl | .mk _ _ _ _ l => l
/-! how many parts, with the terms' parts -/
mutual
def wt : Cl → Nat
  | .mk _ _ _ ts l => 1 + sizes ts + wts l
def wts : List Cl → Nat
  | [] => 0
  | c :: l => wt c + wts l
end
theorem wt_pos : ∀ c : Cl, 0 < wt c
  | .mk _ _ _ _ _ => by rw [wt]; omega
theorem wt_mk (c : Cl) : wt c = 1 + sizes (tsC c) + wts (subC c) := by cases c; rw [wt]; rfl
theorem wts_mem {c : Cl} : ∀ {l : List Cl}, c ∈ l → wt c ≤ wts l
  | [], h => by cases h
  | d :: l, h => by
    rw [wts]
    rcases List.mem_cons.1 h with rfl | h
    · omega
    · have := wts_mem h; omega
theorem wts_len : ∀ l : List Cl, l.length ≤ wts l
  | [] => Nat.le_refl _
  | c :: l => by rw [wts, List.length_cons]; have := wt_pos c; have := wts_len l; omega
theorem Cl.ind {P : Cl → Prop} (h : ∀ c, (∀ x ∈ subC c, P x) → P c) : ∀ c, P c := by
  have : ∀ k c, wt c ≤ k → P c := by
    intro k
    induction k with
    | zero => intro c hc; have := wt_pos c; omega
    | succ k ih => intro c hc; exact h c (fun x hx => ih x (by have := wts_mem hx; have := wt_mk c; omega))
  exact fun c => this _ c (Nat.le_refl _)
/-! counting that stops behind a bound -/
mutual
def wtTo : Nat → Cl → Nat
  | most, .mk _ _ _ ts l => wtTos most (szTos most 1 ts) l
def wtTos : Nat → Nat → List Cl → Nat
  | _, n, [] => n
  | most, n, c :: l => if n ≤ most then wtTos most (n + wtTo (most - n) c) l else n
end
theorem wtTos_ge : ∀ (l : List Cl) (most n : Nat), n ≤ wtTos most n l
  | [], most, n => by rw [wtTos]; exact Nat.le_refl _
  | c :: l, most, n => by
    rw [wtTos]; split
    · have := wtTos_ge l most (n + wtTo (most - n) c); omega
    · exact Nat.le_refl _
theorem szTos_ge : ∀ (l : List Tm) (most n : Nat), n ≤ szTos most n l
  | [], most, n => by rw [szTos]; exact Nat.le_refl _
  | c :: l, most, n => by
    rw [szTos]; split
    · have := szTos_ge l most (n + szTo (most - n) c); omega
    · exact Nat.le_refl _
theorem szTos_le : ∀ (l : List Tm) (most n : Nat), szTos most n l ≤ most → n + sizes l ≤ szTos most n l
  | [], most, n, h => by rw [szTos, sizes]; omega
  | c :: l, most, n, h => by
    rw [szTos] at h ⊢
    rw [sizes]
    by_cases h1 : n ≤ most
    · rw [if_pos h1] at h ⊢
      have h2 := szTos_ge l most (n + szTo (most - n) c)
      have h3 := szTos_le l most _ h
      have h4 : size c ≤ most - n := (szTo_le c (most - n)).1 (by omega)
      have := szTo_small c _ h4
      omega
    · rw [if_neg h1] at h; omega
mutual
theorem wtTo_le : ∀ (c : Cl) (most : Nat), wtTo most c ≤ most → wt c ≤ wtTo most c
  | .mk o s z ts l, most, h => by
    rw [wtTo] at h ⊢
    rw [wt]
    have h1 := wtTos_ge l most (szTos most 1 ts)
    have h2 := szTos_le ts most 1 (by omega)
    have h3 := wtTos_le l most _ h
    omega
theorem wtTos_le : ∀ (l : List Cl) (most n : Nat), wtTos most n l ≤ most → n + wts l ≤ wtTos most n l
  | [], most, n, h => by rw [wtTos, wts]; omega
  | c :: l, most, n, h => by
    rw [wtTos] at h ⊢
    rw [wts]
    by_cases h1 : n ≤ most
    · rw [if_pos h1] at h ⊢
      have h2 := wtTos_ge l most (n + wtTo (most - n) c)
      have h3 := wtTos_le l most _ h
      have h4 := wtTo_le c (most - n) (by omega)
      omega
    · rw [if_neg h1] at h; omega
end
/-! never far beyond the bound -/
theorem szTo_top (t : Tm) (most : Nat) : szTo most t ≤ most + 1 := by
  have : (∀ (t : Tm) (most : Nat), szTo most t ≤ most + 1) := fun t => by
    refine Tm.rec (motive_1 := fun t => ∀ most, szTo most t ≤ most + 1) (motive_2 := fun l => ∀ most n, 1 ≤ n → szTos most n l ≤ max n (most + 1)) ?_ ?_ ?_ t
    · intro o s z l h most; rw [szTo]; have := h most 1 (Nat.le_refl _); omega
    · intro most n _; rw [szTos]; omega
    · intro t l h1 h2 most n hn
      rw [szTos]; split
      · have a := h1 (most - n); have b := h2 most (n + szTo (most - n) t) (by omega); omega
      · omega
  exact this t most
theorem szTos_top : ∀ (l : List Tm) (most n : Nat), szTos most n l ≤ max n (most + 1)
  | [], most, n => by rw [szTos]; omega
  | t :: l, most, n => by
    rw [szTos]; split
    · have a := szTo_top t (most - n); have b := szTos_top l most (n + szTo (most - n) t); omega
    · omega
mutual
theorem wtTo_top : ∀ (c : Cl) (most : Nat), wtTo most c ≤ most + 1
  | .mk o s z ts l, most => by
    rw [wtTo]
    have h1 := szTos_top ts most 1
    have h2 := wtTos_top l most (szTos most 1 ts)
    omega
theorem wtTos_top : ∀ (l : List Cl) (most n : Nat), wtTos most n l ≤ max n (most + 1)
  | [], most, n => by rw [wtTos]; omega
  | c :: l, most, n => by
    rw [wtTos]; split
    · have a := wtTo_top c (most - n); have b := wtTos_top l most (n + wtTo (most - n) c); omega
    · omega
end
/-! equality -/
def bindsC (c : Cl) : Bool := (opC c == 11) || (opC c == 12)
mutual
def eqC : Cl → Cl → Bool
  | .mk o s z ts l, .mk o' s' z' ts' l' => (o == o') && ((z.toList == z'.toList) && (((o == 11) || (o == 12) || (s.toList == s'.toList)) && (eqTs ts ts' && eqCs l l')))
def eqCs : List Cl → List Cl → Bool
  | [], [] => true
  | c :: l, d :: m => eqC c d && eqCs l m
  | [], _ :: _ => false
  | _ :: _, [] => false
end
mutual
def exC : Cl → Cl → Bool
  | .mk o s z ts l, .mk o' s' z' ts' l' => (o == o') && ((z.toList == z'.toList) && ((s.toList == s'.toList) && (eqTs ts ts' && exCs l l')))
def exCs : List Cl → List Cl → Bool
  | [], [] => true
  | c :: l, d :: m => exC c d && exCs l m
  | [], _ :: _ => false
  | _ :: _, [] => false
end
mutual
theorem exC_iff : ∀ {c d : Cl}, exC c d = true ↔ c = d
  | .mk o s z ts l, .mk o' s' z' ts' l' => by
    rw [exC, Bool.and_eq_true, Bool.and_eq_true, Bool.and_eq_true, Bool.and_eq_true, beq_iff_eq, eqS_iff, eqS_iff, eqTs_iff, exCs_iff]
    simp only [Cl.mk.injEq]
    constructor
    · rintro ⟨h1, h2, h3, h4, h5⟩; exact ⟨h1, h3, h2, h4, h5⟩
    · rintro ⟨h1, h2, h3, h4, h5⟩; exact ⟨h1, h3, h2, h4, h5⟩
theorem exCs_iff : ∀ {l m : List Cl}, exCs l m = true ↔ l = m
  | [], [] => by simp [exCs]
  | t :: l, u :: m => by rw [exCs, Bool.and_eq_true, exC_iff, exCs_iff]; simp
  | [], _ :: _ => by simp [exCs]
  | _ :: _, [] => by simp [exCs]
end
theorem exC_refl (c : Cl) : exC c c = true := exC_iff.2 rfl
theorem eqCs_len : ∀ {l m : List Cl}, l.length ≠ m.length → eqCs l m = false
  | [], [], h => absurd rfl h
  | [], _ :: _, _ => rfl
  | _ :: _, [], _ => rfl
  | c :: l, d :: m, h => by rw [eqCs, eqCs_len (fun e => h (by simp [e])), Bool.and_false]
theorem exCs_len : ∀ {l m : List Cl}, l.length ≠ m.length → exCs l m = false
  | [], [], h => absurd rfl h
  | [], _ :: _, _ => rfl
  | _ :: _, [], _ => rfl
  | c :: l, d :: m, h => by rw [exCs, exCs_len (fun e => h (by simp [e])), Bool.and_false]
theorem eqC_mk (c d : Cl) : eqC c d = ((opC c == opC d) && (((soC c).toList == (soC d).toList) && (((opC c == 11) || (opC c == 12) || ((nmC c).toList == (nmC d).toList)) && (eqTs (tsC c) (tsC d) && eqCs (subC c) (subC d))))) := by
  cases c; cases d; rw [eqC]; rfl
theorem exC_mk (c d : Cl) : exC c d = ((opC c == opC d) && (((soC c).toList == (soC d).toList) && (((nmC c).toList == (nmC d).toList) && (eqTs (tsC c) (tsC d) && exCs (subC c) (subC d))))) := by
  cases c; cases d; rw [exC]; rfl
/-! order -/
def nmKey (o : Int) (s : ByteArray) : ByteArray := if o = 11 ∨ o = 12 then ⟨#[]⟩ else s
def cmpTL (l m : List Tm) : Int := lex (cmpI l.length m.length) (cmpTs l m)
theorem cmpTL_mk (l m : List Tm) : cmpTL l m = cmpT (.mk 0 ⟨#[]⟩ 0 l) (.mk 0 ⟨#[]⟩ 0 m) := by
  rw [cmpT, (linI.eq _ _).2 rfl, (linN.eq _ _).2 rfl]; simp [zero_lex, cmpTL]
theorem linTL : Lin cmpTL := by
  refine ⟨fun x y => ?_, fun x y => ?_, fun x y => ?_, fun x y z h1 h2 => ?_⟩
  · rw [cmpTL_mk]; exact linT.rng _ _
  · rw [cmpTL_mk, cmpTL_mk]; exact linT.anti _ _
  · rw [cmpTL_mk, linT.eq]; simp
  · rw [cmpTL_mk] at *; exact linT.trans _ _ _ h1 h2
abbrev KeyC := Int × ByteArray × ByteArray × List Tm × Int
def cmpKC : KeyC → KeyC → Int := lexP cmpI (lexP cmpN (lexP cmpN (lexP cmpTL cmpI)))
theorem linKC : Lin cmpKC := linP linI (linP linN (linP linN (linP linTL linI)))
mutual
def keysC : Cl → List KeyC
  | .mk o s z ts l => (o, nmKey o s, z, ts, (l.length : Int)) :: keysCs l
def keysCs : List Cl → List KeyC
  | [] => []
  | t :: l => keysC t ++ keysCs l
end
mutual
def cmpC : Cl → Cl → Int
  | .mk o s z ts l, .mk o' s' z' ts' l' => lex (cmpI o o') (lex (cmpN (nmKey o s) (nmKey o' s')) (lex (cmpN z z') (lex (cmpTL ts ts') (lex (cmpI l.length l'.length) (cmpCs l l')))))
def cmpCs : List Cl → List Cl → Int
  | [], _ => 0
  | _ :: _, [] => 0
  | t :: l, u :: m => lex (cmpC t u) (cmpCs l m)
end
mutual
theorem cmpC_keys : ∀ (t u : Cl) (xs ys : List KeyC), lexL cmpKC (keysC t ++ xs) (keysC u ++ ys) = lex (cmpC t u) (lexL cmpKC xs ys)
  | .mk o s z ts l, .mk o' s' z' ts' l', xs, ys => by
    rw [keysC, keysC, List.cons_append, List.cons_append, lexL, cmpC]
    show lex (lex (cmpI o o') (lex (cmpN (nmKey o s) (nmKey o' s')) (lex (cmpN z z') (lex (cmpTL ts ts') (cmpI l.length l'.length))))) _ = _
    simp only [lex_assoc]
    by_cases hl : l.length = l'.length
    · rw [cmpCs_keys l l' hl xs ys]
    · have h1 : cmpI l.length l'.length ≠ 0 := fun h => hl (by have := (linI.eq _ _).1 h; omega)
      have e : ∀ y z : Int, lex (cmpI l.length l'.length) y = lex (cmpI l.length l'.length) z := fun y z => by unfold lex; rw [if_pos h1, if_pos h1]
      rw [e _ (lex (cmpCs l l') (lexL cmpKC xs ys))]
theorem cmpCs_keys : ∀ (l m : List Cl), l.length = m.length → ∀ (xs ys : List KeyC), lexL cmpKC (keysCs l ++ xs) (keysCs m ++ ys) = lex (cmpCs l m) (lexL cmpKC xs ys)
  | [], [], _, xs, ys => by rw [cmpCs, zero_lex]; rfl
  | t :: l, u :: m, h, xs, ys => by
    rw [keysCs, keysCs, List.append_assoc, List.append_assoc, cmpC_keys t u, cmpCs_keys l m (by simpa using h), cmpCs, lex_assoc]
  | [], _ :: _, h, _, _ => by simp at h
  | _ :: _, [], h, _, _ => by simp at h
end
theorem cmpC_key (t u : Cl) : cmpC t u = lexL cmpKC (keysC t) (keysC u) := by
  have := cmpC_keys t u [] []
  rw [List.append_nil, List.append_nil, lexL, lex_zero] at this
  exact this.symm
theorem linC : Lin (lexL cmpKC) := linL linKC
theorem nmKey_eq (o : Int) (s s' : ByteArray) : nmKey o s = nmKey o s' ↔ ((o == 11) || (o == 12) || (s.toList == s'.toList)) = true := by
  unfold nmKey
  rw [Bool.or_eq_true, Bool.or_eq_true, beq_iff_eq, beq_iff_eq, eqS_iff]
  by_cases h : o = 11 ∨ o = 12
  · simp [h]
  · simp [h]
theorem cmpTL_zero (l m : List Tm) : cmpTL l m = 0 ↔ eqTs l m = true := by rw [linTL.eq, eqTs_iff]
mutual
theorem cmpC_zero : ∀ (t u : Cl), cmpC t u = 0 ↔ eqC t u = true
  | .mk o s z ts l, .mk o' s' z' ts' l' => by
    rw [cmpC, eqC, lex_eq, lex_eq, lex_eq, lex_eq, lex_eq, linI.eq, linN.eq, linN.eq, linI.eq, Bool.and_eq_true, Bool.and_eq_true, Bool.and_eq_true, Bool.and_eq_true, beq_iff_eq, eqS_iff, cmpTL_zero]
    constructor
    · rintro ⟨rfl, h2, rfl, h4, h5, h6⟩
      exact ⟨rfl, rfl, (nmKey_eq _ _ _).1 h2, h4, (cmpCs_zero l l' (by omega)).1 h6⟩
    · rintro ⟨rfl, rfl, h3, h4, h5⟩
      have hl : l.length = l'.length := by
        refine Decidable.byContradiction fun h => ?_
        rw [eqCs_len h] at h5; cases h5
      exact ⟨rfl, (nmKey_eq _ _ _).2 h3, rfl, h4, by omega, (cmpCs_zero l l' hl).2 h5⟩
theorem cmpCs_zero : ∀ (l m : List Cl), l.length = m.length → (cmpCs l m = 0 ↔ eqCs l m = true)
  | [], [], _ => by simp [cmpCs, eqCs]
  | t :: l, u :: m, h => by rw [cmpCs, eqCs, lex_eq, Bool.and_eq_true, cmpC_zero t u, cmpCs_zero l m (by simpa using h)]
  | [], _ :: _, h => by simp at h
  | _ :: _, [], h => by simp at h
end
theorem eqC_cmp (t u : Cl) : eqC t u = (cmpC t u == 0) := by rw [Bool.eq_iff_iff, beq_iff_eq, cmpC_zero]
theorem cmpC_mk (c d : Cl) : cmpC c d = lex (cmpI (opC c) (opC d)) (lex (cmpN (nmKey (opC c) (nmC c)) (nmKey (opC d) (nmC d))) (lex (cmpN (soC c) (soC d)) (lex (cmpTL (tsC c) (tsC d)) (lex (cmpI (subC c).length (subC d).length) (cmpCs (subC c) (subC d)))))) := by
  cases c; cases d; rw [cmpC]; rfl
theorem cmpC_rng (c d : Cl) : cmpC c d = -1 ∨ cmpC c d = 0 ∨ cmpC c d = 1 := by rw [cmpC_key]; exact linC.rng _ _
theorem cmpC_anti (c d : Cl) : cmpC d c = - cmpC c d := by rw [cmpC_key, cmpC_key]; exact linC.anti _ _
theorem cmpC_self (c : Cl) : cmpC c c = 0 := by rw [cmpC_key, linC.eq]
end Go.Proofs.Yteidknjhponpkaa.C
namespace Go.Proofs.Yteidknjhponpkaa.C
open Go.RowKit L T
set_option linter.unusedVariables false
set_option linter.unusedSimpArgs false

/-- a slice's three words -/
structure SS where
  a : Option Addr
  n : Nat
  c : Nat
def SS.nil : SS := ⟨none, 0, 0⟩
abbrev IsK (B : Nat) (w : World) (k : SS) (l : List Tm) : Prop := IsT B w k.a k.n k.c l
mutual
def ArC (B : Nat) (w : World) : Cl → SS → Option Addr → Nat → Nat → Prop
  | .mk _ _ _ ts l, k, a, n, c => IsK B w k ts ∧ n = l.length ∧ n ≤ c ∧ c ≤ maxLen ∧ (a = none → c = 0) ∧ (0 < n → ∃ b o, a = some ⟨b, o, none⟩ ∧ b < B ∧ RwC B w b o l)
def RwC (B : Nat) (w : World) (b : Nat) : Nat → List Cl → Prop
  | _, [] => True
  | o, t :: l => (∃ k a n c, w.cell? ⟨b, o, none⟩ = some (.int .i64 (opC t)) ∧ w.cell? ⟨b, o + 1, none⟩ = some (.string (nmC t)) ∧ w.cell? ⟨b, o + 1 + 1, none⟩ = some (.string (soC t)) ∧ w.cell? ⟨b, o + 1 + 1 + 1, none⟩ = some (.slice k.a k.n k.c) ∧ w.cell? ⟨b, o + 1 + 1 + 1 + 1, none⟩ = some (.slice a n c) ∧ ArC B w t k a n c) ∧ RwC B w b (o + 5) l
end
/-- a slice that reads as these claims -/
def IsC (B : Nat) (w : World) (a : Option Addr) (n c : Nat) (l : List Cl) : Prop :=
  n = l.length ∧ n ≤ c ∧ c ≤ maxLen ∧ (a = none → c = 0) ∧ (0 < n → ∃ b o, a = some ⟨b, o, none⟩ ∧ b < B ∧ RwC B w b o l)
/-- the cells of a claim, and what they lead to -/
def AtC (B : Nat) (w : World) (b o : Nat) (t : Cl) (k : SS) (a : Option Addr) (n c : Nat) : Prop :=
  w.cell? ⟨b, o, none⟩ = some (.int .i64 (opC t)) ∧ w.cell? ⟨b, o + 1, none⟩ = some (.string (nmC t)) ∧ w.cell? ⟨b, o + 1 + 1, none⟩ = some (.string (soC t)) ∧ w.cell? ⟨b, o + 1 + 1 + 1, none⟩ = some (.slice k.a k.n k.c) ∧ w.cell? ⟨b, o + 1 + 1 + 1 + 1, none⟩ = some (.slice a n c) ∧ ArC B w t k a n c
theorem ar_isC {B : Nat} {w : World} {t : Cl} {k : SS} {a : Option Addr} {n c : Nat} : ArC B w t k a n c ↔ IsK B w k (tsC t) ∧ IsC B w a n c (subC t) := by
  cases t; rw [ArC]; rfl
theorem rwc_cons {B : Nat} {w : World} {b o : Nat} {t : Cl} {l : List Cl} : RwC B w b o (t :: l) ↔ (∃ k a n c, AtC B w b o t k a n c) ∧ RwC B w b (o + 5) l := by
  rw [RwC]; rfl
theorem rwc_at {B : Nat} {w : World} {b : Nat} : ∀ {l : List Cl} {o : Nat}, RwC B w b o l ↔ ∀ i (h : i < l.length), ∃ k a n c, AtC B w b (o + i * 5) l[i] k a n c
  | [], o => by rw [RwC]; simp
  | t :: l, o => by
    rw [rwc_cons, rwc_at]
    constructor
    · rintro ⟨h0, h1⟩ i hi
      cases i with
      | zero => simpa using h0
      | succ i =>
        have := h1 i (by simpa using hi)
        rw [show o + (i + 1) * 5 = o + 5 + i * 5 by omega]
        exact this
    · intro h
      refine ⟨by have := h 0 (by simp); rw [Nat.zero_mul, Nat.add_zero] at this; exact this, fun i hi => ?_⟩
      have := h (i + 1) (by simpa using hi)
      rw [show o + (i + 1) * 5 = o + 5 + i * 5 by omega] at this
      exact this
mutual
theorem ArC.bel {B : Nat} {w w' : World} (hb : Below B w w') : ∀ (t : Cl) {k : SS} {a : Option Addr} {n c : Nat}, ArC B w t k a n c → ArC B w' t k a n c
  | .mk o s z ts l, k, a, n, c, h => by
    rw [ArC] at h ⊢
    refine ⟨h.1.bel hb, h.2.1, h.2.2.1, h.2.2.2.1, h.2.2.2.2.1, fun hn => ?_⟩
    obtain ⟨b, o, ha, hlt, hr⟩ := h.2.2.2.2.2 hn
    exact ⟨b, o, ha, hlt, RwC.bel hb hlt l hr⟩
theorem RwC.bel {B : Nat} {w w' : World} (hb : Below B w w') {b : Nat} (hlt : b < B) : ∀ (l : List Cl) {o : Nat}, RwC B w b o l → RwC B w' b o l
  | [], o, h => by rw [RwC]; trivial
  | t :: l, o, h => by
    rw [RwC] at h ⊢
    obtain ⟨⟨k, a, n, c, h0, h1, h2, h3, h4, h5⟩, h6⟩ := h
    exact ⟨⟨k, a, n, c, (hb.cell (p := ⟨b, _, none⟩) hlt).trans h0, (hb.cell (p := ⟨b, _, none⟩) hlt).trans h1, (hb.cell (p := ⟨b, _, none⟩) hlt).trans h2, (hb.cell (p := ⟨b, _, none⟩) hlt).trans h3, (hb.cell (p := ⟨b, _, none⟩) hlt).trans h4, ArC.bel hb t h5⟩, RwC.bel hb hlt l h6⟩
end
mutual
theorem ArC.mono {B B' : Nat} {w : World} (hB : B ≤ B') : ∀ (t : Cl) {k : SS} {a : Option Addr} {n c : Nat}, ArC B w t k a n c → ArC B' w t k a n c
  | .mk o s z ts l, k, a, n, c, h => by
    rw [ArC] at h ⊢
    refine ⟨h.1.mono hB, h.2.1, h.2.2.1, h.2.2.2.1, h.2.2.2.2.1, fun hn => ?_⟩
    obtain ⟨b, o, ha, hlt, hr⟩ := h.2.2.2.2.2 hn
    exact ⟨b, o, ha, by omega, RwC.mono hB l hr⟩
theorem RwC.mono {B B' : Nat} {w : World} (hB : B ≤ B') {b : Nat} : ∀ (l : List Cl) {o : Nat}, RwC B w b o l → RwC B' w b o l
  | [], o, h => by rw [RwC]; trivial
  | t :: l, o, h => by
    rw [RwC] at h ⊢
    obtain ⟨⟨k, a, n, c, h0, h1, h2, h3, h4, h5⟩, h6⟩ := h
    exact ⟨⟨k, a, n, c, h0, h1, h2, h3, h4, ArC.mono hB t h5⟩, RwC.mono hB l h6⟩
end
theorem IsC.bel {B : Nat} {w w' : World} {a : Option Addr} {n c : Nat} {l : List Cl} (h : IsC B w a n c l) (hb : Below B w w') : IsC B w' a n c l :=
  ⟨h.1, h.2.1, h.2.2.1, h.2.2.2.1, fun hn => by
    obtain ⟨b, o, ha, hlt, hr⟩ := h.2.2.2.2 hn
    exact ⟨b, o, ha, hlt, hr.bel hb hlt l⟩⟩
theorem IsC.mono {B B' : Nat} {w : World} {a : Option Addr} {n c : Nat} {l : List Cl} (h : IsC B w a n c l) (hB : B ≤ B') : IsC B' w a n c l :=
  ⟨h.1, h.2.1, h.2.2.1, h.2.2.2.1, fun hn => by
    obtain ⟨b, o, ha, hlt, hr⟩ := h.2.2.2.2 hn
    exact ⟨b, o, ha, by omega, hr.mono hB l⟩⟩
abbrev ArWC (w : World) (t : Cl) (k : SS) (a : Option Addr) (n c : Nat) : Prop := ArC w.heap.size w t k a n c
abbrev CsW (w : World) (a : Option Addr) (n c : Nat) (l : List Cl) : Prop := IsC w.heap.size w a n c l
abbrev KsW (w : World) (k : SS) (l : List Tm) : Prop := IsT w.heap.size w k.a k.n k.c l
theorem ArWC.b {w w' : World} {t : Cl} {k : SS} {a : Option Addr} {n c : Nat} (h : ArWC w t k a n c) (hb : Below w.heap.size w w') : ArWC w' t k a n c := ArC.mono hb.size t (ArC.bel hb t h)
theorem CsW.b {w w' : World} {a : Option Addr} {n c : Nat} {l : List Cl} (h : CsW w a n c l) (hb : Below w.heap.size w w') : CsW w' a n c l := (h.bel hb).mono hb.size
theorem ArWC.subs {w : World} {t : Cl} {k : SS} {a : Option Addr} {n c : Nat} (h : ArWC w t k a n c) : CsW w a n c (subC t) := (ar_isC.1 h).2
theorem ArWC.terms {w : World} {t : Cl} {k : SS} {a : Option Addr} {n c : Nat} (h : ArWC w t k a n c) : KsW w k (tsC t) := (ar_isC.1 h).1
theorem IsC.at {B : Nat} {w : World} {a : Option Addr} {n c i : Nat} {l : List Cl} (h : IsC B w a n c l) (hi : i < n) :
    ∃ b o t k a' n' c', a = some ⟨b, o, none⟩ ∧ b < B ∧ w.cell? ⟨b, o + i * 5, none⟩ = some (.int .i64 (opC t)) ∧ w.cell? ⟨b, o + i * 5 + 1, none⟩ = some (.string (nmC t)) ∧ w.cell? ⟨b, o + i * 5 + 1 + 1, none⟩ = some (.string (soC t)) ∧ w.cell? ⟨b, o + i * 5 + 1 + 1 + 1, none⟩ = some (.slice k.a k.n k.c) ∧ w.cell? ⟨b, o + i * 5 + 1 + 1 + 1 + 1, none⟩ = some (.slice a' n' c') ∧ l[i]? = some t ∧ ArC B w t k a' n' c' := by
  obtain ⟨b, o, ha, hlt, hr⟩ := h.2.2.2.2 (by omega)
  have hi2 : i < l.length := by rw [← h.1]; exact hi
  obtain ⟨k, a', n', c', h0, h1, h2, h3, h4, h5⟩ := rwc_at.1 hr i hi2
  exact ⟨b, o, l[i], k, a', n', c', ha, hlt, h0, h1, h2, h3, h4, List.getElem?_eq_getElem _, h5⟩
theorem drop_c {t : Cl} {l : List Cl} {k : Nat} (h : l[k]? = some t) : l.drop k = t :: l.drop (k + 1) := by
  obtain ⟨hk, rfl⟩ := List.getElem?_eq_some_iff.1 h
  exact List.drop_eq_getElem_cons hk
theorem take_c {t : Cl} {l : List Cl} {k : Nat} (h : l[k]? = some t) : l.take (k + 1) = l.take k ++ [t] := by
  rw [List.take_add_one, h]; rfl

/-! a claim put into a block -/
def CBox (w : World) (g : Nat) (o : Int) (s z : ByteArray) (k : SS) (a : Option Addr) (n c : Nat) : Prop := Blk w g #[.int .i64 o, .string s, .string z, .slice k.a k.n k.c, .slice a n c] 97
theorem CBox.five {w : World} {g : Nat} {o : Int} {s z : ByteArray} {k : SS} {a : Option Addr} {n c : Nat} (h : CBox w g o s z k a n c) :
    w.cell? ⟨g, 0, none⟩ = some (.int .i64 o) ∧ w.cell? ⟨g, 1, none⟩ = some (.string s) ∧ w.cell? ⟨g, 1 + 1, none⟩ = some (.string z) ∧ w.cell? ⟨g, 1 + 1 + 1, none⟩ = some (.slice k.a k.n k.c) ∧ w.cell? ⟨g, 1 + 1 + 1 + 1, none⟩ = some (.slice a n c) := ⟨Blk.cell h 0, Blk.cell h 1, Blk.cell h 2, Blk.cell h 3, Blk.cell h 4⟩
theorem CBox.free {w : World} {g : Nat} {o : Int} {s z : ByteArray} {k : SS} {a : Option Addr} {n c : Nat} (h : CBox w g o s z k a n c) :
    w.frozen? ⟨g, 0, none⟩ = false ∧ w.frozen? ⟨g, 1, none⟩ = false ∧ w.frozen? ⟨g, 2, none⟩ = false ∧ w.frozen? ⟨g, 3, none⟩ = false ∧ w.frozen? ⟨g, 4, none⟩ = false := ⟨Blk.free h 0, Blk.free h 1, Blk.free h 2, Blk.free h 3, Blk.free h 4⟩
theorem CBox.b {w w' : World} {g : Nat} {o : Int} {s z : ByteArray} {k : SS} {a : Option Addr} {n c : Nat} (h : CBox w g o s z k a n c) (hb : Below w.heap.size w w') : CBox w' g o s z k a n c := Blk.below h hb
theorem CBox.new (w : World) (o : Int) (s z : ByteArray) (k : SS) (a : Option Addr) (n c : Nat) : CBox (w.alloc (.cells #[.int .i64 o, .string s, .string z, .slice k.a k.n k.c, .slice a n c] 97)) w.heap.size o s z k a n c := Blk.new w _ _
theorem CBox.far {w : World} {g x : Nat} {o : Int} {s z : ByteArray} {k : SS} {a : Option Addr} {n c : Nat} (h : CBox w g o s z k a n c) (hne : x ≠ g) (j : Nat) (v : Value) : CBox (w.setCell ⟨x, j, none⟩ v) g o s z k a n c := Blk.far h hne j v
/-- all five cells of a block stored -/
def put5 (w : World) (g : Nat) (v0 v1 v2 v3 v4 : Value) : World := ((((w.setCell ⟨g, 0, none⟩ v0).setCell ⟨g, 1, none⟩ v1).setCell ⟨g, 2, none⟩ v2).setCell ⟨g, 3, none⟩ v3).setCell ⟨g, 4, none⟩ v4
theorem CBox.put {w : World} {g : Nat} {o : Int} {s z : ByteArray} {k : SS} {a : Option Addr} {n c : Nat} (h : CBox w g o s z k a n c) (o' : Int) (s' z' : ByteArray) (k' : SS) (a' : Option Addr) (n' c' : Nat) : CBox (put5 w g (.int .i64 o') (.string s') (.string z') (.slice k'.a k'.n k'.c) (.slice a' n' c')) g o' s' z' k' a' n' c' := by
  have := Blk.set (Blk.set (Blk.set (Blk.set (Blk.set h 0 (.int .i64 o')) 1 (.string s')) 2 (.string z')) 3 (.slice k'.a k'.n k'.c)) 4 (.slice a' n' c')
  simpa [put5, CBox] using this
theorem put5_size (w : World) (g : Nat) (v0 v1 v2 v3 v4 : Value) : (put5 w g v0 v1 v2 v3 v4).heap.size = w.heap.size := by simp [put5, World.setCell]
theorem put5_other (w : World) (g i : Nat) (v0 v1 v2 v3 v4 : Value) (hne : i ≠ g) : (put5 w g v0 v1 v2 v3 v4).heap[i]? = w.heap[i]? := by
  unfold put5
  rw [heap_setCell_other _ ⟨g, _, none⟩ i _ hne, heap_setCell_other _ ⟨g, _, none⟩ i _ hne, heap_setCell_other _ ⟨g, _, none⟩ i _ hne, heap_setCell_other _ ⟨g, _, none⟩ i _ hne, heap_setCell_other _ ⟨g, _, none⟩ i _ hne]
theorem put5_below {B g : Nat} {w0 w : World} (hb : Below B w0 w) (hg : B ≤ g) (v0 v1 v2 v3 v4 : Value) : Below B w0 (put5 w g v0 v1 v2 v3 v4) :=
  below_set (below_set (below_set (below_set (below_set hb hg _ _) hg _ _) hg _ _) hg _ _) hg _ _
theorem cbox1 (w : World) (o : Int) (s z : ByteArray) (k : SS) (a : Option Addr) (n c : Nat) :
    ∃ W, w.alloc (.cells #[.int .i64 o, .string s, .string z, .slice k.a k.n k.c, .slice a n c] 97) = W ∧ Below w.heap.size w W ∧ W.heap.size = w.heap.size + 1 ∧ CBox W w.heap.size o s z k a n c :=
  ⟨_, rfl, bel_alloc (Below.refl _ _) _, by simp, CBox.new w o s z k a n c⟩
theorem cbox2 (w : World) (o : Int) (s z : ByteArray) (k : SS) (a : Option Addr) (n c : Nat) (o' : Int) (s' z' : ByteArray) (k' : SS) (a' : Option Addr) (n' c' : Nat) :
    ∃ W, (w.alloc (.cells #[.int .i64 o, .string s, .string z, .slice k.a k.n k.c, .slice a n c] 97)).alloc (.cells #[.int .i64 o', .string s', .string z', .slice k'.a k'.n k'.c, .slice a' n' c'] 97) = W ∧ Below w.heap.size w W ∧ W.heap.size = w.heap.size + 2 ∧ CBox W w.heap.size o s z k a n c ∧ CBox W (w.heap.size + 1) o' s' z' k' a' n' c' := by
  refine ⟨_, rfl, bel_alloc (bel_alloc (Below.refl _ _) _) _, by simp, Blk.alloc (CBox.new w o s z k a n c) _, ?_⟩
  have := CBox.new (w.alloc (.cells #[.int .i64 o, .string s, .string z, .slice k.a k.n k.c, .slice a n c] 97)) o' s' z' k' a' n' c'
  rwa [World.size_alloc] at this

/-! rows of the call's own -/
/-- a claim's five cells -/
structure Hc where
  op : Int
  nm : ByteArray
  so : ByteArray
  k : SS
  a : Option Addr
  n : Nat
  c : Nat
def Hc.cells (h : Hc) : List Value := [.int .i64 h.op, .string h.nm, .string h.so, .slice h.k.a h.k.n h.k.c, .slice h.a h.n h.c]
def Hc.val (h : Hc) : Value := .agg #[.int .i64 h.op, .string h.nm, .string h.so, .slice h.k.a h.k.n h.k.c, .slice h.a h.n h.c]
def Hc.zero : Hc := ⟨0, ⟨#[]⟩, ⟨#[]⟩, SS.nil, none, 0, 0⟩
def hcOf (t : Cl) (k : SS) (a : Option Addr) (n c : Nat) : Hc := ⟨opC t, nmC t, soC t, k, a, n, c⟩
def flatC (hs : List Hc) : List Value := hs.flatMap Hc.cells
theorem flatC_len (hs : List Hc) : (flatC hs).length = hs.length * 5 := by
  unfold flatC
  induction hs with
  | nil => rfl
  | cons h l ih => rw [List.flatMap_cons, List.length_append, ih, List.length_cons]; simp [Hc.cells]; omega
theorem flatC_app (l m : List Hc) : flatC (l ++ m) = flatC l ++ flatC m := by unfold flatC; rw [List.flatMap_append]
theorem flatC_get : ∀ (hs : List Hc) (k j : Nat) (hk : k < hs.length), j < 5 → (flatC hs)[k * 5 + j]? = (hs[k].cells)[j]?
  | [], k, j, hk, _ => absurd hk (by simp)
  | h :: l, 0, j, hk, hj => by
    unfold flatC
    rw [List.flatMap_cons, List.getElem?_append_left (by simp [Hc.cells]; omega)]
    simp
  | h :: l, k + 1, j, hk, hj => by
    have ih := flatC_get l k j (by simpa using hk) hj
    unfold flatC at ih ⊢
    rw [List.flatMap_cons, List.getElem?_append_right (by simp [Hc.cells]; omega)]
    have e : (k + 1) * 5 + j - h.cells.length = k * 5 + j := by simp [Hc.cells]; omega
    rw [e, ih]; simp
theorem flatC_ext {hs : List Hc} {cs : List Value} (hl : hs.length * 5 ≤ cs.length) (h : ∀ k (hk : k < hs.length) j, j < 5 → cs[k * 5 + j]? = (hs[k].cells)[j]?) : cs.take (hs.length * 5) = flatC hs := by
  refine List.ext_getElem? fun i => ?_
  by_cases hi : i < hs.length * 5
  · rw [List.getElem?_take_of_lt hi]
    have hk : i / 5 < hs.length := by omega
    have := h (i / 5) hk (i % 5) (by omega)
    rw [show i / 5 * 5 + i % 5 = i by omega] at this
    rw [this, ← flatC_get hs (i / 5) (i % 5) hk (by omega), show i / 5 * 5 + i % 5 = i by omega]
  · rw [List.getElem?_eq_none (by rw [List.length_take]; omega), List.getElem?_eq_none (by rw [flatC_len]; omega)]
theorem hc_one (hs : List Hc) : ∀ u ∈ flatC hs, u.oneCell' = true := fun u hu => by
  unfold flatC at hu
  obtain ⟨h, _, hu⟩ := List.mem_flatMap.1 hu
  simp [Hc.cells] at hu
  rcases hu with rfl | rfl | rfl | rfl | rfl <;> rfl
theorem claimI : (Try.prog.info? 97).map (fun i => (i.zero, i.size, i.bytes)) = some (some (.agg #[.int .i64 0, .string ⟨#[]⟩, .string ⟨#[]⟩, .slice none 0 0, .slice none 0 0]), 5, 88) := by kernel_rfl
/-- a row of the call's own that holds these claims -/
def OwnC (w : World) (base : Nat) (v : Value) (hs : List Hc) : Prop := w.ownsRow base 97 5 v hs.length (flatC hs)
theorem OwnC.nil (w : World) (base : Nat) : OwnC w base (.slice none 0 0) [] := World.ownsRow_nil _ _ _ _
theorem OwnC.below {w w' : World} {base : Nat} {v : Value} {hs : List Hc} (h : OwnC w base v hs) (hb : Below w.heap.size w w') : OwnC w' base v hs := by
  refine ⟨h.1, ?_⟩
  rcases h.2 with hn | ⟨g, cap, cur, rfl, h1, hg, rest⟩
  · exact .inl hn
  · exact .inr ⟨g, cap, cur, rfl, h1, by rw [hb.block g (Array.getElem?_eq_some_iff.1 hg).1]; exact hg, rest⟩
theorem OwnC.at {w : World} {base g n c : Nat} {hs : List Hc} (h : OwnC w base (.slice (some ⟨g, 0, none⟩) n c) hs) {k : Nat} (hk : k < hs.length) :
    w.cell? ⟨g, k * 5, none⟩ = some (.int .i64 hs[k].op) ∧ w.cell? ⟨g, k * 5 + 1, none⟩ = some (.string hs[k].nm) ∧ w.cell? ⟨g, k * 5 + 1 + 1, none⟩ = some (.string hs[k].so) ∧ w.cell? ⟨g, k * 5 + 1 + 1 + 1, none⟩ = some (.slice hs[k].k.a hs[k].k.n hs[k].k.c) ∧ w.cell? ⟨g, k * 5 + 1 + 1 + 1 + 1, none⟩ = some (.slice hs[k].a hs[k].n hs[k].c) := by
  rcases h.2 with ⟨hv, _⟩ | ⟨g', cap, cur, hv, hb, hg, hnc, hcm, hcs, ht⟩
  · cases hv
  · injection hv with h1 h2 h3
    injection h1 with h1
    injection h1 with h1
    subst h1
    have key : ∀ j, j < 5 → w.cell? ⟨g, k * 5 + j, none⟩ = (hs[k].cells)[j]? := fun j hj => by
      rw [cell_of_row w g _ _ _ _ hg, ← flatC_get hs k j hk hj, ← ht, List.getElem?_take_of_lt (by omega), Array.getElem?_toList]
    exact ⟨key 0 (by omega), key 1 (by omega), key 2 (by omega), key 3 (by omega), key 4 (by omega)⟩
theorem OwnC.slice {w : World} {base : Nat} {v : Value} {hs : List Hc} (h : OwnC w base v hs) : ∃ A c, v = .slice A hs.length c ∧ hs.length ≤ c ∧ c ≤ maxLen ∧ (A = none → c = 0) ∧ (0 < hs.length → ∃ g, A = some ⟨g, 0, none⟩ ∧ base ≤ g ∧ g < w.heap.size) := by
  rcases h.2 with ⟨rfl, hn⟩ | ⟨g, cap, cur, rfl, hb, hg, hnc, hcm, hcs, ht⟩
  · exact ⟨none, 0, by rw [hn], by omega, Nat.zero_le _, fun _ => rfl, fun h => absurd h (by omega)⟩
  · exact ⟨_, _, rfl, hnc, hcm, (fun h => by cases h), fun _ => ⟨g, rfl, hb, (Array.getElem?_eq_some_iff.1 hg).1⟩⟩
theorem OwnC.isC {w : World} {base B : Nat} {A : Option Addr} {n c : Nat} {hs : List Hc} {l : List Cl} (h : OwnC w base (.slice A n c) hs) (hB : w.heap.size ≤ B) (hl : l.length = hs.length)
    (ha : ∀ k (hk : k < l.length) (hk2 : k < hs.length), hs[k].op = opC l[k] ∧ hs[k].nm = nmC l[k] ∧ hs[k].so = soC l[k] ∧ ArC B w l[k] hs[k].k hs[k].a hs[k].n hs[k].c) : IsC B w A n c l := by
  obtain ⟨A', c', hv, h1, h2, h3, h4⟩ := h.slice
  injection hv with e1 e2 e3
  subst e1 e2 e3
  refine ⟨hl.symm, h1, h2, h3, fun hn => ?_⟩
  obtain ⟨g, rfl, hb, hlt⟩ := h4 hn
  refine ⟨g, 0, rfl, by omega, rwc_at.2 fun k hk => ?_⟩
  have hk2 : k < hs.length := by omega
  obtain ⟨c0, c1, c2, c3, c4⟩ := h.at hk2
  obtain ⟨e1, e2, e3, e4⟩ := ha k hk hk2
  rw [Nat.zero_add]
  exact ⟨_, _, _, _, by rw [← e1]; exact c0, by rw [← e2]; exact c1, by rw [← e3]; exact c2, c3, c4, e4⟩
end Go.Proofs.Yteidknjhponpkaa.C
namespace Go.Proofs.Yteidknjhponpkaa.C
open Go.RowKit L T
set_option linter.unusedVariables false
set_option linter.unusedSimpArgs false

/-- a block whose first cells are these claims -/
def RowC (w : World) (g : Nat) (hs : List Hc) : Prop := ∃ cur, w.heap[g]? = some (.cells cur 97 (0, 0)) ∧ hs.length * 5 ≤ cur.size ∧ cur.toList.take (hs.length * 5) = flatC hs
theorem RowC.lt {w : World} {g : Nat} {hs : List Hc} (h : RowC w g hs) : g < w.heap.size := by
  obtain ⟨cur, hg, _⟩ := h
  exact (Array.getElem?_eq_some_iff.1 hg).1
theorem RowC.of_block {w w' : World} {g : Nat} {hs : List Hc} (h : RowC w g hs) (hb : w'.heap[g]? = w.heap[g]?) : RowC w' g hs := by
  obtain ⟨cur, hg, r⟩ := h
  exact ⟨cur, hb.trans hg, r⟩
theorem RowC.at {w : World} {g : Nat} {hs : List Hc} (h : RowC w g hs) {k : Nat} (hk : k < hs.length) :
    w.cell? ⟨g, k * 5, none⟩ = some (.int .i64 hs[k].op) ∧ w.cell? ⟨g, k * 5 + 1, none⟩ = some (.string hs[k].nm) ∧ w.cell? ⟨g, k * 5 + 1 + 1, none⟩ = some (.string hs[k].so) ∧ w.cell? ⟨g, k * 5 + 1 + 1 + 1, none⟩ = some (.slice hs[k].k.a hs[k].k.n hs[k].k.c) ∧ w.cell? ⟨g, k * 5 + 1 + 1 + 1 + 1, none⟩ = some (.slice hs[k].a hs[k].n hs[k].c) := by
  obtain ⟨cur, hg, hl, ht⟩ := h
  have key : ∀ j, j < 5 → w.cell? ⟨g, k * 5 + j, none⟩ = (hs[k].cells)[j]? := fun j hj => by
    rw [cell_of_row w g _ _ _ _ hg, ← flatC_get hs k j hk hj, ← ht, List.getElem?_take_of_lt (by omega), Array.getElem?_toList]
  exact ⟨key 0 (by omega), key 1 (by omega), key 2 (by omega), key 3 (by omega), key 4 (by omega)⟩
theorem RowC.free {w : World} {g : Nat} {hs : List Hc} (h : RowC w g hs) (k : Nat) : w.frozen? ⟨g, k, none⟩ = false := by
  obtain ⟨cur, hg, _⟩ := h
  exact frozen_of_row w g k _ _ hg
theorem OwnC.row {w : World} {base g n c : Nat} {hs : List Hc} (h : OwnC w base (.slice (some ⟨g, 0, none⟩) n c) hs) : RowC w g hs := by
  rcases h.2 with ⟨hv, _⟩ | ⟨g', cap, cur, hv, hb, hg, hnc, hcm, hcs, ht⟩
  · cases hv
  · injection hv with h1 h2 h3
    injection h1 with h1
    injection h1 with h1
    subst h1
    exact ⟨cur, hg, by omega, ht⟩
/-- a store of one claim into a row -/
def set5 (w : World) (g k : Nat) (h : Hc) : World := ((((w.setCell ⟨g, k * 5, none⟩ (.int .i64 h.op)).setCell ⟨g, k * 5 + 1, none⟩ (.string h.nm)).setCell ⟨g, k * 5 + 2, none⟩ (.string h.so)).setCell ⟨g, k * 5 + 3, none⟩ (.slice h.k.a h.k.n h.k.c)).setCell ⟨g, k * 5 + 4, none⟩ (.slice h.a h.n h.c)
def arr5 (cur : Array Value) (k : Nat) (h : Hc) : Array Value := ((((cur.setIfInBounds (k * 5) (.int .i64 h.op)).setIfInBounds (k * 5 + 1) (.string h.nm)).setIfInBounds (k * 5 + 1 + 1) (.string h.so)).setIfInBounds (k * 5 + 1 + 1 + 1) (.slice h.k.a h.k.n h.k.c)).setIfInBounds (k * 5 + 1 + 1 + 1 + 1) (.slice h.a h.n h.c)
theorem arr5_size (cur : Array Value) (k : Nat) (h : Hc) : (arr5 cur k h).size = cur.size := by simp [arr5]
theorem set5_block {w : World} {g : Nat} {cur : Array Value} {t : TypeId} (k : Nat) (h : Hc) (hg : w.heap[g]? = some (.cells cur t (0, 0))) :
    (set5 w g k h).heap[g]? = some (.cells (arr5 cur k h) t (0, 0)) :=
  heap_setCell_same _ _ _ _ _ _ (heap_setCell_same _ _ _ _ _ _ (heap_setCell_same _ _ _ _ _ _ (heap_setCell_same _ _ _ _ _ _ (heap_setCell_same _ _ _ _ _ _ hg))))
theorem set5_other (w : World) (g k i : Nat) (h : Hc) (hne : i ≠ g) : (set5 w g k h).heap[i]? = w.heap[i]? := by
  unfold set5
  rw [heap_setCell_other _ ⟨g, _, none⟩ i _ hne, heap_setCell_other _ ⟨g, _, none⟩ i _ hne, heap_setCell_other _ ⟨g, _, none⟩ i _ hne, heap_setCell_other _ ⟨g, _, none⟩ i _ hne, heap_setCell_other _ ⟨g, _, none⟩ i _ hne]
theorem set5_size (w : World) (g k : Nat) (h : Hc) : (set5 w g k h).heap.size = w.heap.size := by simp [set5, World.setCell]
theorem set5_below {B g : Nat} {w0 w : World} (hb : Below B w0 w) (hg : B ≤ g) (k : Nat) (h : Hc) : Below B w0 (set5 w g k h) :=
  below_set (below_set (below_set (below_set (below_set hb hg _ _) hg _ _) hg _ _) hg _ _) hg _ _
theorem arr5_get (cur : Array Value) (k : Nat) (h : Hc) (hk : k * 5 + 5 ≤ cur.size) (i : Nat) :
    (arr5 cur k h)[i]? = if k * 5 ≤ i ∧ i < k * 5 + 5 then (h.cells)[i - k * 5]? else cur[i]? := by
  unfold arr5
  by_cases h0 : i = k * 5
  · subst h0
    rw [if_pos (by omega)]
    simp only [Array.getElem?_setIfInBounds, Array.size_setIfInBounds]
    rw [if_neg (by omega), if_neg (by omega), if_neg (by omega), if_neg (by omega), if_pos trivial, if_pos (by omega), Nat.sub_self]; rfl
  by_cases h1 : i = k * 5 + 1
  · subst h1
    rw [if_pos (by omega)]
    simp only [Array.getElem?_setIfInBounds, Array.size_setIfInBounds]
    rw [if_neg (by omega), if_neg (by omega), if_neg (by omega), if_pos trivial, if_pos (by omega), show k * 5 + 1 - k * 5 = 1 by omega]; rfl
  by_cases h2 : i = k * 5 + 1 + 1
  · subst h2
    rw [if_pos (by omega)]
    simp only [Array.getElem?_setIfInBounds, Array.size_setIfInBounds]
    rw [if_neg (by omega), if_neg (by omega), if_pos trivial, if_pos (by omega), show k * 5 + 1 + 1 - k * 5 = 2 by omega]; rfl
  by_cases h3 : i = k * 5 + 1 + 1 + 1
  · subst h3
    rw [if_pos (by omega)]
    simp only [Array.getElem?_setIfInBounds, Array.size_setIfInBounds]
    rw [if_neg (by omega), if_pos trivial, if_pos (by omega), show k * 5 + 1 + 1 + 1 - k * 5 = 3 by omega]; rfl
  by_cases h4 : i = k * 5 + 1 + 1 + 1 + 1
  · subst h4
    rw [if_pos (by omega)]
    simp only [Array.getElem?_setIfInBounds, Array.size_setIfInBounds]
    rw [if_pos trivial, if_pos (by omega), show k * 5 + 1 + 1 + 1 + 1 - k * 5 = 4 by omega]; rfl
  rw [if_neg (by omega), Array.getElem?_setIfInBounds_ne (by omega), Array.getElem?_setIfInBounds_ne (by omega), Array.getElem?_setIfInBounds_ne (by omega), Array.getElem?_setIfInBounds_ne (by omega), Array.getElem?_setIfInBounds_ne (by omega)]
theorem flatC_set (hs : List Hc) (k : Nat) (h : Hc) (hk : k < hs.length) {cur : Array Value} (hl : hs.length * 5 ≤ cur.size) (ht : cur.toList.take (hs.length * 5) = flatC hs) :
    (arr5 cur k h).toList.take ((hs.set k h).length * 5) = flatC (hs.set k h) := by
  refine flatC_ext (by simp [arr5_size]; omega) fun i hi j hj => ?_
  rw [List.length_set] at hi
  rw [Array.getElem?_toList, arr5_get cur k h (by omega)]
  by_cases e : i = k
  · subst e
    rw [if_pos (by omega), show i * 5 + j - i * 5 = j by omega]
    simp
  · rw [if_neg (by omega), ← Array.getElem?_toList, ← List.getElem?_take_of_lt (show i * 5 + j < hs.length * 5 by omega), ht, flatC_get hs i j hi hj, List.getElem_set_ne (fun x => e x.symm)]
theorem RowC.set {w : World} {g : Nat} {hs : List Hc} (hr : RowC w g hs) (k : Nat) (h : Hc) (hk : k < hs.length) : RowC (set5 w g k h) g (hs.set k h) := by
  obtain ⟨cur, hg, hl, ht⟩ := hr
  exact ⟨_, set5_block k h hg, by simp [arr5_size]; omega, flatC_set hs k h hk hl ht⟩
set_option maxHeartbeats 1000000 in
theorem OwnC.set {w : World} {base g n c : Nat} {hs : List Hc} (ho : OwnC w base (.slice (some ⟨g, 0, none⟩) n c) hs) (k : Nat) (h : Hc) (hk : k < hs.length) : OwnC (set5 w g k h) base (.slice (some ⟨g, 0, none⟩) n c) (hs.set k h) := by
  rcases ho.2 with ⟨hv, _⟩ | ⟨g', cap, cur, hv, hb, hg, hnc, hcm, hcs, ht⟩
  · cases hv
  · have hv' := hv
    injection hv with h1 h2 h3
    injection h1 with h1
    injection h1 with h1
    subst h1
    refine ⟨by rw [flatC_len], .inr ⟨g, cap, arr5 cur k h, by rw [List.length_set]; exact hv', hb, set5_block k h hg, (by rw [List.length_set]; exact hnc), hcm, (by rw [arr5_size]; exact hcs), flatC_set hs k h hk (by omega) ht⟩⟩

/-! claims, each in blocks of its own, from lo on and below hi -/
def FrK (w : World) (ts : List Tm) (lo hi : Nat) (k : SS) : Prop := Fr w (.mk 0 ⟨#[]⟩ 0 ts) lo hi ⟨0, ⟨#[]⟩, 0, k.a, k.n, k.c⟩
theorem FrK.le {w : World} {ts : List Tm} {lo hi : Nat} {k : SS} (h : FrK w ts lo hi k) : lo ≤ hi := Fr.le h
theorem FrK.same {w w' : World} {ts : List Tm} {lo hi : Nat} {k : SS} (hb : ∀ b, lo ≤ b → b < hi → w'.heap[b]? = w.heap[b]?) (h : FrK w ts lo hi k) : FrK w' ts lo hi k := Fr.same _ hb h
theorem FrK.down {w : World} {ts : List Tm} {lo lo' hi : Nat} {k : SS} (hl : lo ≤ lo') (h : FrK w ts lo' hi k) : FrK w ts lo hi k := Fr.down hl h
theorem FrK.up {w : World} {ts : List Tm} {lo hi hi' : Nat} {k : SS} (hl : hi ≤ hi') (h : FrK w ts lo hi k) : FrK w ts lo hi' k := Fr.up hl h
theorem FrK.ks {w : World} {B : Nat} {ts : List Tm} {lo hi : Nat} {k : SS} (hB : hi ≤ B) (h : FrK w ts lo hi k) : IsK B w k ts := ar_isT.1 (Fr.ar _ hB h)
mutual
def FrC (w : World) : Cl → Nat → Nat → Hc → Prop
  | .mk o s z ts l, lo, hi, h => (h.op = o ∧ h.nm = s ∧ h.so = z) ∧ ∃ mid, FrK w ts lo mid h.k ∧ (h.n = l.length ∧ h.n ≤ h.c ∧ h.c ≤ maxLen ∧ (h.a = none → h.c = 0)) ∧ mid ≤ hi ∧ (0 < h.n → ∃ g hs, h.a = some ⟨g, 0, none⟩ ∧ mid ≤ g ∧ RowC w g hs ∧ FrCL w l (g + 1) hi hs)
def FrCL (w : World) : List Cl → Nat → Nat → List Hc → Prop
  | [], lo, hi, hs => lo ≤ hi ∧ hs = []
  | t :: l, lo, hi, hs => ∃ h hs' mid, hs = h :: hs' ∧ FrC w t lo mid h ∧ FrCL w l mid hi hs'
end
theorem FrC.le {w : World} : ∀ {t : Cl} {lo hi : Nat} {h : Hc}, FrC w t lo hi h → lo ≤ hi
  | .mk o s z ts l, lo, hi, h, hf => by
    rw [FrC] at hf
    obtain ⟨_, mid, h1, _, h3, _⟩ := hf
    exact Nat.le_trans h1.le h3
theorem FrCL.le {w : World} : ∀ {l : List Cl} {lo hi : Nat} {hs : List Hc}, FrCL w l lo hi hs → lo ≤ hi
  | [], lo, hi, hs, hf => by rw [FrCL] at hf; exact hf.1
  | t :: l, lo, hi, hs, hf => by
    rw [FrCL] at hf
    obtain ⟨h, hs', mid, _, h1, h2⟩ := hf
    exact Nat.le_trans h1.le (FrCL.le h2)
theorem FrCL.len {w : World} : ∀ {l : List Cl} {lo hi : Nat} {hs : List Hc}, FrCL w l lo hi hs → hs.length = l.length
  | [], lo, hi, hs, hf => by rw [FrCL] at hf; rw [hf.2]; rfl
  | t :: l, lo, hi, hs, hf => by
    rw [FrCL] at hf
    obtain ⟨h, hs', mid, rfl, h1, h2⟩ := hf
    rw [List.length_cons, List.length_cons, FrCL.len h2]
mutual
theorem FrC.up {w : World} : ∀ {t : Cl} {lo hi hi' : Nat} {h : Hc}, hi ≤ hi' → FrC w t lo hi h → FrC w t lo hi' h
  | .mk o s z ts l, lo, hi, hi', h, hh, hf => by
    rw [FrC] at hf ⊢
    obtain ⟨h0, mid, h1, h2, h3, h4⟩ := hf
    refine ⟨h0, mid, h1, h2, Nat.le_trans h3 hh, fun hn => ?_⟩
    obtain ⟨g, hs, e1, e2, e3, e4⟩ := h4 hn
    exact ⟨g, hs, e1, e2, e3, FrCL.up hh e4⟩
theorem FrCL.up {w : World} : ∀ {l : List Cl} {lo hi hi' : Nat} {hs : List Hc}, hi ≤ hi' → FrCL w l lo hi hs → FrCL w l lo hi' hs
  | [], lo, hi, hi', hs, hh, hf => by rw [FrCL] at hf ⊢; exact ⟨Nat.le_trans hf.1 hh, hf.2⟩
  | t :: l, lo, hi, hi', hs, hh, hf => by
    rw [FrCL] at hf ⊢
    obtain ⟨h, hs', mid, h0, h1, h2⟩ := hf
    exact ⟨h, hs', mid, h0, h1, FrCL.up hh h2⟩
end
mutual
theorem FrC.same {w w' : World} : ∀ (t : Cl) {lo hi : Nat} {h : Hc}, (∀ b, lo ≤ b → b < hi → w'.heap[b]? = w.heap[b]?) → FrC w t lo hi h → FrC w' t lo hi h
  | .mk o s z ts l, lo, hi, h, hb, hf => by
    rw [FrC] at hf ⊢
    obtain ⟨h0, mid, h1, h2, h3, h4⟩ := hf
    have l1 := h1.le
    refine ⟨h0, mid, h1.same (fun b x y => hb b x (by omega)), h2, h3, fun hn => ?_⟩
    obtain ⟨g, hs, e1, e2, e3, e4⟩ := h4 hn
    have := FrCL.le e4
    exact ⟨g, hs, e1, e2, e3.of_block (hb g (by omega) (by omega)), FrCL.same l (fun b hl hu => hb b (by omega) hu) e4⟩
theorem FrCL.same {w w' : World} : ∀ (l : List Cl) {lo hi : Nat} {hs : List Hc}, (∀ b, lo ≤ b → b < hi → w'.heap[b]? = w.heap[b]?) → FrCL w l lo hi hs → FrCL w' l lo hi hs
  | [], lo, hi, hs, hb, hf => by rw [FrCL] at hf ⊢; exact hf
  | t :: l, lo, hi, hs, hb, hf => by
    rw [FrCL] at hf ⊢
    obtain ⟨h, hs', mid, h0, h1, h2⟩ := hf
    have l1 := h1.le
    have l2 := FrCL.le h2
    exact ⟨h, hs', mid, h0, FrC.same t (fun b hl hu => hb b hl (by omega)) h1, FrCL.same l (fun b hl hu => hb b (by omega) hu) h2⟩
end
theorem FrC.down {w : World} {lo lo' hi : Nat} (hl : lo ≤ lo') : ∀ {t : Cl} {h : Hc}, FrC w t lo' hi h → FrC w t lo hi h
  | .mk o s z ts l, h, hf => by
    rw [FrC] at hf ⊢
    obtain ⟨h0, mid, h1, h2, h3, h4⟩ := hf
    exact ⟨h0, mid, h1.down hl, h2, h3, h4⟩
theorem FrCL.snoc {w : World} {t : Cl} {h : Hc} {mid hi : Nat} (hf : FrC w t mid hi h) : ∀ {l : List Cl} {lo : Nat} {hs : List Hc}, FrCL w l lo mid hs → FrCL w (l ++ [t]) lo hi (hs ++ [h])
  | [], lo, hs, h1 => by
    rw [FrCL] at h1
    rw [h1.2, List.nil_append, List.nil_append, FrCL]
    exact ⟨h, [], hi, rfl, FrC.down h1.1 hf, by rw [FrCL]; exact ⟨Nat.le_refl _, rfl⟩⟩
  | u :: l, lo, hs, h1 => by
    rw [FrCL] at h1
    obtain ⟨h', hs', mid', rfl, h2, h3⟩ := h1
    rw [List.cons_append, List.cons_append, FrCL]
    exact ⟨h', _, mid', rfl, h2, FrCL.snoc hf h3⟩
theorem FrC.hd {w : World} : ∀ {t : Cl} {lo hi : Nat} {h : Hc}, FrC w t lo hi h → h.op = opC t ∧ h.nm = nmC t ∧ h.so = soC t
  | .mk o s z ts l, lo, hi, h, hf => by rw [FrC] at hf; exact hf.1
mutual
theorem FrC.ar {w : World} {B : Nat} : ∀ (t : Cl) {lo hi : Nat} {h : Hc}, hi ≤ B → FrC w t lo hi h → ArC B w t h.k h.a h.n h.c
  | .mk o s z ts l, lo, hi, h, hB, hf => by
    rw [FrC] at hf
    rw [ArC]
    obtain ⟨h0, mid, h1, h2, h3, h4⟩ := hf
    refine ⟨h1.ks (by omega), h2.1, h2.2.1, h2.2.2.1, h2.2.2.2, fun hn => ?_⟩
    obtain ⟨g, hs, e1, e2, e3, e4⟩ := h4 hn
    have := FrCL.le e4
    have hl := FrCL.len e4
    refine ⟨g, 0, e1, by omega, rwc_at.2 fun k hk => ?_⟩
    have hk2 : k < hs.length := by omega
    obtain ⟨c0, c1, c2, c3, c4⟩ := e3.at hk2
    have h5 := FrCL.ar l hB e4 k hk hk2
    rw [Nat.zero_add]
    exact ⟨_, _, _, _, by rw [← h5.1.1]; exact c0, by rw [← h5.1.2.1]; exact c1, by rw [← h5.1.2.2]; exact c2, c3, c4, h5.2⟩
theorem FrCL.ar {w : World} {B : Nat} : ∀ (l : List Cl) {lo hi : Nat} {hs : List Hc}, hi ≤ B → FrCL w l lo hi hs → ∀ k (hk : k < l.length) (hk2 : k < hs.length), (hs[k].op = opC l[k] ∧ hs[k].nm = nmC l[k] ∧ hs[k].so = soC l[k]) ∧ ArC B w l[k] hs[k].k hs[k].a hs[k].n hs[k].c
  | [], lo, hi, hs, hB, hf, k, hk, _ => absurd hk (by simp)
  | t :: l, lo, hi, hs, hB, hf, k, hk, hk2 => by
    rw [FrCL] at hf
    obtain ⟨h, hs', mid, rfl, h1, h2⟩ := hf
    have l2 := FrCL.le h2
    cases k with
    | zero => exact ⟨h1.hd, FrC.ar t (by omega) h1⟩
    | succ k => exact FrCL.ar l hB h2 k (by simpa using hk) (by simpa using hk2)
end
end Go.Proofs.Yteidknjhponpkaa.C
namespace Go.Proofs.Yteidknjhponpkaa.C
open Go.RowKit L T
set_option linter.unusedVariables false
set_option linter.unusedSimpArgs false

def IsTP (P : Nat → Prop) (w : World) (k : SS) (l : List Tm) : Prop := ArP P w (.mk 0 ⟨#[]⟩ 0 l) k.a k.n k.c
mutual
def ArCP (P : Nat → Prop) (w : World) : Cl → SS → Option Addr → Nat → Nat → Prop
  | .mk _ _ _ ts l, k, a, n, c => IsTP P w k ts ∧ n = l.length ∧ n ≤ c ∧ c ≤ maxLen ∧ (a = none → c = 0) ∧ (0 < n → ∃ b o, a = some ⟨b, o, none⟩ ∧ P b ∧ RwCP P w b o l)
def RwCP (P : Nat → Prop) (w : World) (b : Nat) : Nat → List Cl → Prop
  | _, [] => True
  | o, t :: l => (∃ k a n c, w.cell? ⟨b, o, none⟩ = some (.int .i64 (opC t)) ∧ w.cell? ⟨b, o + 1, none⟩ = some (.string (nmC t)) ∧ w.cell? ⟨b, o + 1 + 1, none⟩ = some (.string (soC t)) ∧ w.cell? ⟨b, o + 1 + 1 + 1, none⟩ = some (.slice k.a k.n k.c) ∧ w.cell? ⟨b, o + 1 + 1 + 1 + 1, none⟩ = some (.slice a n c) ∧ ArCP P w t k a n c) ∧ RwCP P w b (o + 5) l
end
mutual
theorem ArCP.to {P Q : Nat → Prop} {w w' : World} (hb : ∀ b, P b → w'.heap[b]? = w.heap[b]?) (hq : ∀ b, P b → Q b) : ∀ (t : Cl) {k : SS} {a : Option Addr} {n c : Nat}, ArCP P w t k a n c → ArCP Q w' t k a n c
  | .mk o s z ts l, k, a, n, c, h => by
    rw [ArCP] at h ⊢
    refine ⟨ArP.to hb hq _ h.1, h.2.1, h.2.2.1, h.2.2.2.1, h.2.2.2.2.1, fun hn => ?_⟩
    obtain ⟨b, o, ha, hp, hr⟩ := h.2.2.2.2.2 hn
    exact ⟨b, o, ha, hq b hp, RwCP.to hb hq hp l hr⟩
theorem RwCP.to {P Q : Nat → Prop} {w w' : World} (hb : ∀ b, P b → w'.heap[b]? = w.heap[b]?) (hq : ∀ b, P b → Q b) {b : Nat} (hp : P b) : ∀ (l : List Cl) {o : Nat}, RwCP P w b o l → RwCP Q w' b o l
  | [], o, h => by rw [RwCP]; trivial
  | t :: l, o, h => by
    rw [RwCP] at h ⊢
    obtain ⟨⟨k, a, n, c, h0, h1, h2, h3, h4, h5⟩, h6⟩ := h
    exact ⟨⟨k, a, n, c, (World.cell?_of_block (hb b hp)).trans h0, (World.cell?_of_block (hb b hp)).trans h1, (World.cell?_of_block (hb b hp)).trans h2, (World.cell?_of_block (hb b hp)).trans h3, (World.cell?_of_block (hb b hp)).trans h4, ArCP.to hb hq t h5⟩, RwCP.to hb hq hp l h6⟩
end
mutual
theorem ArCP.ar {P : Nat → Prop} {w : World} {B : Nat} (hq : ∀ b, P b → b < B) : ∀ (t : Cl) {k : SS} {a : Option Addr} {n c : Nat}, ArCP P w t k a n c → ArC B w t k a n c
  | .mk o s z ts l, k, a, n, c, h => by
    rw [ArCP] at h
    rw [ArC]
    refine ⟨ar_isT.1 (ArP.ar hq _ h.1), h.2.1, h.2.2.1, h.2.2.2.1, h.2.2.2.2.1, fun hn => ?_⟩
    obtain ⟨b, o, ha, hp, hr⟩ := h.2.2.2.2.2 hn
    exact ⟨b, o, ha, hq b hp, RwCP.rw hq l hr⟩
theorem RwCP.rw {P : Nat → Prop} {w : World} {B : Nat} (hq : ∀ b, P b → b < B) {b : Nat} : ∀ (l : List Cl) {o : Nat}, RwCP P w b o l → RwC B w b o l
  | [], o, h => by rw [RwC]; trivial
  | t :: l, o, h => by
    rw [RwCP] at h
    rw [RwC]
    obtain ⟨⟨k, a, n, c, h0, h1, h2, h3, h4, h5⟩, h6⟩ := h
    exact ⟨⟨k, a, n, c, h0, h1, h2, h3, h4, ArCP.ar hq t h5⟩, RwCP.rw hq l h6⟩
end
mutual
theorem ArC.p {w : World} {B : Nat} : ∀ (t : Cl) {k : SS} {a : Option Addr} {n c : Nat}, ArC B w t k a n c → ArCP (fun b => b < B) w t k a n c
  | .mk o s z ts l, k, a, n, c, h => by
    rw [ArC] at h
    rw [ArCP]
    refine ⟨Ar.p _ (ar_isT.2 h.1), h.2.1, h.2.2.1, h.2.2.2.1, h.2.2.2.2.1, fun hn => ?_⟩
    obtain ⟨b, o, ha, hp, hr⟩ := h.2.2.2.2.2 hn
    exact ⟨b, o, ha, hp, RwC.p l hr⟩
theorem RwC.p {w : World} {B : Nat} {b : Nat} : ∀ (l : List Cl) {o : Nat}, RwC B w b o l → RwCP (fun b => b < B) w b o l
  | [], o, h => by rw [RwCP]; trivial
  | t :: l, o, h => by
    rw [RwC] at h
    rw [RwCP]
    obtain ⟨⟨k, a, n, c, h0, h1, h2, h3, h4, h5⟩, h6⟩ := h
    exact ⟨⟨k, a, n, c, h0, h1, h2, h3, h4, ArC.p t h5⟩, RwC.p l h6⟩
end
/-! what lies in fresh blocks is read in these blocks -/
theorem Row.rwP {P : Nat → Prop} {w : World} {g : Nat} {hs : List Hd} {l : List Tm} (hr : Row w g hs) (hl : hs.length = l.length) (h : ∀ k (hk : k < l.length) (hk2 : k < hs.length), (hs[k].op = opT l[k] ∧ hs[k].nm = nameT l[k] ∧ hs[k].nu = numT l[k]) ∧ ArP P w l[k] hs[k].a hs[k].n hs[k].c) : RwP P w g 0 l := by
  refine rwP_of l 0 fun k t hk => ?_
  obtain ⟨hk1, rfl⟩ := List.getElem?_eq_some_iff.1 hk
  have hk2 : k < hs.length := by omega
  obtain ⟨c0, c1, c2, c3⟩ := hr.at hk2
  have h5 := h k hk1 hk2
  rw [Nat.zero_add]
  exact ⟨_, _, _, by rw [← h5.1.1]; exact c0, by rw [← h5.1.2.1]; exact c1, by rw [← h5.1.2.2]; exact c2, c3, h5.2⟩
mutual
theorem Fr.arP {w : World} {P : Nat → Prop} : ∀ (t : Tm) {lo hi : Nat} {h : Hd}, (∀ b, lo ≤ b → b < hi → P b) → Fr w t lo hi h → ArP P w t h.a h.n h.c
  | .mk o s z l, lo, hi, h, hp, hf => by
    rw [Fr] at hf
    rw [ArP]
    refine ⟨hf.2.1.1, hf.2.1.2.1, hf.2.1.2.2.1, hf.2.1.2.2.2, fun hn => ?_⟩
    obtain ⟨g, hs, h1, h2, h3, h4⟩ := hf.2.2.2 hn
    have := FrL.le h4
    exact ⟨g, 0, h1, hp g h2 (by omega), Row.rwP h3 (FrL.len h4) (FrL.arP l (fun b x y => hp b (by omega) y) h4)⟩
theorem FrL.arP {w : World} {P : Nat → Prop} : ∀ (l : List Tm) {lo hi : Nat} {hs : List Hd}, (∀ b, lo ≤ b → b < hi → P b) → FrL w l lo hi hs → ∀ k (hk : k < l.length) (hk2 : k < hs.length), (hs[k].op = opT l[k] ∧ hs[k].nm = nameT l[k] ∧ hs[k].nu = numT l[k]) ∧ ArP P w l[k] hs[k].a hs[k].n hs[k].c
  | [], lo, hi, hs, hp, hf, k, hk, _ => absurd hk (by simp)
  | t :: l, lo, hi, hs, hp, hf, k, hk, hk2 => by
    rw [FrL] at hf
    obtain ⟨h, hs', mid, rfl, h1, h2⟩ := hf
    have l2 := FrL.le h2
    have l1 := h1.le
    cases k with
    | zero => exact ⟨h1.hd, Fr.arP t (fun b x y => hp b x (by omega)) h1⟩
    | succ k => exact FrL.arP l (fun b x y => hp b (by omega) y) h2 k (by simpa using hk) (by simpa using hk2)
end
theorem rwCP_of {P : Nat → Prop} {w : World} {b : Nat} : ∀ (l : List Cl) (o : Nat), (∀ i t, l[i]? = some t → ∃ k a n c, w.cell? ⟨b, o + i * 5, none⟩ = some (.int .i64 (opC t)) ∧ w.cell? ⟨b, o + i * 5 + 1, none⟩ = some (.string (nmC t)) ∧ w.cell? ⟨b, o + i * 5 + 1 + 1, none⟩ = some (.string (soC t)) ∧ w.cell? ⟨b, o + i * 5 + 1 + 1 + 1, none⟩ = some (.slice k.a k.n k.c) ∧ w.cell? ⟨b, o + i * 5 + 1 + 1 + 1 + 1, none⟩ = some (.slice a n c) ∧ ArCP P w t k a n c) → RwCP P w b o l
  | [], o, h => by rw [RwCP]; trivial
  | t :: l, o, h => by
    rw [RwCP]
    refine ⟨?_, rwCP_of l (o + 5) fun i t' hk => ?_⟩
    · have := h 0 t rfl
      rw [Nat.zero_mul, Nat.add_zero] at this
      exact this
    · have := h (i + 1) t' (by simpa using hk)
      rw [show o + (i + 1) * 5 = o + 5 + i * 5 by omega] at this
      exact this
mutual
theorem FrC.arP {w : World} {P : Nat → Prop} : ∀ (t : Cl) {lo hi : Nat} {h : Hc}, (∀ b, lo ≤ b → b < hi → P b) → FrC w t lo hi h → ArCP P w t h.k h.a h.n h.c
  | .mk o s z ts l, lo, hi, h, hp, hf => by
    rw [FrC] at hf
    rw [ArCP]
    obtain ⟨h0, mid, h1, h2, h3, h4⟩ := hf
    have l1 := h1.le
    refine ⟨Fr.arP _ (fun b x y => hp b x (by omega)) h1, h2.1, h2.2.1, h2.2.2.1, h2.2.2.2, fun hn => ?_⟩
    obtain ⟨g, hs, e1, e2, e3, e4⟩ := h4 hn
    have := FrCL.le e4
    have hl := FrCL.len e4
    refine ⟨g, 0, e1, hp g (by omega) (by omega), rwCP_of l 0 fun k t hk => ?_⟩
    obtain ⟨hk1, rfl⟩ := List.getElem?_eq_some_iff.1 hk
    have hk2 : k < hs.length := by omega
    obtain ⟨c0, c1, c2, c3, c4⟩ := e3.at hk2
    have h5 := FrCL.arP l (fun b x y => hp b (by omega) y) e4 k hk1 hk2
    rw [Nat.zero_add]
    exact ⟨_, _, _, _, by rw [← h5.1.1]; exact c0, by rw [← h5.1.2.1]; exact c1, by rw [← h5.1.2.2]; exact c2, c3, c4, h5.2⟩
theorem FrCL.arP {w : World} {P : Nat → Prop} : ∀ (l : List Cl) {lo hi : Nat} {hs : List Hc}, (∀ b, lo ≤ b → b < hi → P b) → FrCL w l lo hi hs → ∀ k (hk : k < l.length) (hk2 : k < hs.length), (hs[k].op = opC l[k] ∧ hs[k].nm = nmC l[k] ∧ hs[k].so = soC l[k]) ∧ ArCP P w l[k] hs[k].k hs[k].a hs[k].n hs[k].c
  | [], lo, hi, hs, hp, hf, k, hk, _ => absurd hk (by simp)
  | t :: l, lo, hi, hs, hp, hf, k, hk, hk2 => by
    rw [FrCL] at hf
    obtain ⟨h, hs', mid, rfl, h1, h2⟩ := hf
    have l2 := FrCL.le h2
    have l1 := h1.le
    cases k with
    | zero => exact ⟨h1.hd, FrC.arP t (fun b x y => hp b x (by omega)) h1⟩
    | succ k => exact FrCL.arP l (fun b x y => hp b (by omega) y) h2 k (by simpa using hk) (by simpa using hk2)
end
/-! it stands where the cells that are read stand -/
mutual
theorem ArP.toC {P Q : Nat → Prop} {w w' : World} (hb : ∀ b o v, P b → w.cell? ⟨b, o, none⟩ = some v → w'.cell? ⟨b, o, none⟩ = some v) (hq : ∀ b, P b → Q b) : ∀ (t : Tm) {a : Option Addr} {n c : Nat}, ArP P w t a n c → ArP Q w' t a n c
  | .mk o s z l, a, n, c, h => by
    rw [ArP] at h ⊢
    refine ⟨h.1, h.2.1, h.2.2.1, h.2.2.2.1, fun hn => ?_⟩
    obtain ⟨b, o, ha, hp, hr⟩ := h.2.2.2.2 hn
    exact ⟨b, o, ha, hq b hp, RwP.toC hb hq hp l hr⟩
theorem RwP.toC {P Q : Nat → Prop} {w w' : World} (hb : ∀ b o v, P b → w.cell? ⟨b, o, none⟩ = some v → w'.cell? ⟨b, o, none⟩ = some v) (hq : ∀ b, P b → Q b) {b : Nat} (hp : P b) : ∀ (l : List Tm) {o : Nat}, RwP P w b o l → RwP Q w' b o l
  | [], o, h => by rw [RwP]; trivial
  | t :: l, o, h => by
    rw [RwP] at h ⊢
    obtain ⟨⟨a, n, c, h0, h1, h2, h3, h4⟩, h5⟩ := h
    exact ⟨⟨a, n, c, hb _ _ _ hp h0, hb _ _ _ hp h1, hb _ _ _ hp h2, hb _ _ _ hp h3, ArP.toC hb hq t h4⟩, RwP.toC hb hq hp l h5⟩
end
mutual
theorem ArCP.toC {P Q : Nat → Prop} {w w' : World} (hb : ∀ b o v, P b → w.cell? ⟨b, o, none⟩ = some v → w'.cell? ⟨b, o, none⟩ = some v) (hq : ∀ b, P b → Q b) : ∀ (t : Cl) {k : SS} {a : Option Addr} {n c : Nat}, ArCP P w t k a n c → ArCP Q w' t k a n c
  | .mk o s z ts l, k, a, n, c, h => by
    rw [ArCP] at h ⊢
    refine ⟨ArP.toC hb hq _ h.1, h.2.1, h.2.2.1, h.2.2.2.1, h.2.2.2.2.1, fun hn => ?_⟩
    obtain ⟨b, o, ha, hp, hr⟩ := h.2.2.2.2.2 hn
    exact ⟨b, o, ha, hq b hp, RwCP.toC hb hq hp l hr⟩
theorem RwCP.toC {P Q : Nat → Prop} {w w' : World} (hb : ∀ b o v, P b → w.cell? ⟨b, o, none⟩ = some v → w'.cell? ⟨b, o, none⟩ = some v) (hq : ∀ b, P b → Q b) {b : Nat} (hp : P b) : ∀ (l : List Cl) {o : Nat}, RwCP P w b o l → RwCP Q w' b o l
  | [], o, h => by rw [RwCP]; trivial
  | t :: l, o, h => by
    rw [RwCP] at h ⊢
    obtain ⟨⟨k, a, n, c, h0, h1, h2, h3, h4, h5⟩, h6⟩ := h
    exact ⟨⟨k, a, n, c, hb _ _ _ hp h0, hb _ _ _ hp h1, hb _ _ _ hp h2, hb _ _ _ hp h3, hb _ _ _ hp h4, ArCP.toC hb hq t h5⟩, RwCP.toC hb hq hp l h6⟩
end
end Go.Proofs.Yteidknjhponpkaa.C
namespace Go.Proofs.Yteidknjhponpkaa.C
open Go.RowKit L T
set_option linter.unusedVariables false
set_option linter.unusedSimpArgs false

theorem make_claims (n : Nat) (hn : n ≤ 1000000) (w : World) :
    (Instr.makeSlice 95 (.int .i64 (n : Int)) (.int .i64 (n : Int))).run Try.prog w = .ok (.slice (some ⟨w.heap.size, 0, none⟩) n n) (w.alloc (.cells (madeCells #[.int .i64 0, .string ⟨#[]⟩, .string ⟨#[]⟩, .slice none 0 0, .slice none 0 0] (n * 5)) 97)) := by
  obtain ⟨i0, hi, hz0, hz1, hz2⟩ := info_parts claimI
  have hr := run_make (P := Try.prog) w 95 97 i0 _ Try.underlying95 hi hz0 .i64 .i64 n n (by omega) (Int.le_refl _) (by rw [hz2]; omega) (by omega)
  simp only [Int.toNat_natCast, hz1] at hr
  exact hr
theorem made_claims (n : Nat) (hn : n ≤ 1000000) (w : World) : OwnC (w.alloc (.cells (madeCells #[.int .i64 0, .string ⟨#[]⟩, .string ⟨#[]⟩, .slice none 0 0, .slice none 0 0] (n * 5)) 97)) w.heap.size (.slice (some ⟨w.heap.size, 0, none⟩) n n) (List.replicate n Hc.zero) := by
  refine ⟨by rw [flatC_len], .inr ⟨w.heap.size, n, _, by rw [List.length_replicate], Nat.le_refl _, heap_alloc_new w _, by rw [List.length_replicate]; exact Nat.le_refl _, by unfold maxLen; omega, by rw [size_madeCells], ?_⟩⟩
  show List.take ((List.replicate n Hc.zero).length * 5) _ = _
  refine flatC_ext (by simp [size_madeCells]) fun k hk j hj => ?_
  rw [List.length_replicate] at hk
  rw [List.getElem_replicate, Array.getElem?_toList]
  unfold madeCells
  rw [Array.getElem?_map, Array.getElem?_range, if_pos (by omega)]
  have hm : (k * 5 + j) % 5 = j := by omega
  have hc : j = 0 ∨ j = 1 ∨ j = 2 ∨ j = 3 ∨ j = 4 := by omega
  simp only [Option.map_some]
  show some (#[Value.int IntKind.i64 0, .string ⟨#[]⟩, .string ⟨#[]⟩, .slice none 0 0, .slice none 0 0][(k * 5 + j) % 5]!) = _
  rw [hm]
  rcases hc with rfl | rfl | rfl | rfl | rfl <;> rfl
/-- a claim in new memory is returned -/
def NewC (t : Cl) (w : World) (e : Ending) (w' : World) : Prop := ∃ h : Hc, e = .returned (.agg #[.int .i64 h.op, .string h.nm, .string h.so, .slice h.k.a h.k.n h.k.c, .slice h.a h.n h.c]) ∧ FrC w' t w.heap.size w'.heap.size h ∧ Below w.heap.size w w'
/-- the copy, at this claim -/
def CopyOkC (t : Cl) : Prop := ∀ (k : SS) (a : Option Addr) (m c : Nat) (w : World), wt t ≤ 1000000 → ArWC w t k a m c →
  Calls Try.prog 107 #[.agg #[.int .i64 (opC t), .string (nmC t), .string (soC t), .slice k.a k.n k.c, .slice a m c]] w fun e w' => NewC t w e w'
/-- what has been copied so far -/
def PartC (w0 : World) (g : Nat) (la : List Cl) (m k : Nat) (wr : World) : Prop :=
  ∃ hs, hs.length = k ∧ OwnC wr w0.heap.size (.slice (some ⟨g, 0, none⟩) m m) (hs ++ List.replicate (m - k) Hc.zero) ∧ FrCL wr (la.take k) (g + 1) wr.heap.size hs
theorem PartC.go {w0 wr w4 w5 : World} {g : Nat} {la : List Cl} {x : Cl} {m k : Nat} {h : Hc} (hp : PartC w0 g la m k wr) (hk : k < m) (hx : la[k]? = some x) (h4 : Below wr.heap.size wr w4) (h5 : Below w4.heap.size w4 w5) (hf : FrC w5 x w4.heap.size w5.heap.size h) :
    (w5.cell? ⟨g, k * 5, none⟩ = some (.int .i64 0) ∧ w5.cell? ⟨g, k * 5 + 1, none⟩ = some (.string ⟨#[]⟩) ∧ w5.cell? ⟨g, k * 5 + 2, none⟩ = some (.string ⟨#[]⟩) ∧ w5.cell? ⟨g, k * 5 + 3, none⟩ = some (.slice none 0 0) ∧ w5.cell? ⟨g, k * 5 + 4, none⟩ = some (.slice none 0 0)) ∧ (w5.frozen? ⟨g, k * 5, none⟩ = false ∧ w5.frozen? ⟨g, k * 5 + 1, none⟩ = false ∧ w5.frozen? ⟨g, k * 5 + 2, none⟩ = false ∧ w5.frozen? ⟨g, k * 5 + 3, none⟩ = false ∧ w5.frozen? ⟨g, k * 5 + 4, none⟩ = false) ∧ Hid (PartC w0 g la m (k + 1) (set5 w5 g k h)) := by
  have b5 := bel_trans h4 h5
  obtain ⟨hs, hl, ho, hfr⟩ := hp
  have hgl : g < wr.heap.size := ho.row.lt
  have hlt : k < (hs ++ List.replicate (m - k) Hc.zero).length := by rw [List.length_append, List.length_replicate]; omega
  obtain ⟨c0, c1, c2, c3, c4⟩ := ho.at hlt
  have e : (hs ++ List.replicate (m - k) Hc.zero)[k] = Hc.zero := by
    rw [List.getElem_append_right (by omega), List.getElem_replicate]
  rw [e] at c0 c1 c2 c3 c4
  have hz : ∀ j, wr.frozen? ⟨g, j, none⟩ = false := fun j => ho.row.free j
  have ho5 := (ho.below b5).set k h hlt
  rw [show m - k = m - (k + 1) + 1 by omega, ← hl, list_step, hl] at ho5
  refine ⟨⟨(b5.cell (p := ⟨g, _, none⟩) hgl).trans c0, (b5.cell (p := ⟨g, _, none⟩) hgl).trans c1, (b5.cell (p := ⟨g, _, none⟩) hgl).trans c2, (b5.cell (p := ⟨g, _, none⟩) hgl).trans c3, (b5.cell (p := ⟨g, _, none⟩) hgl).trans c4⟩, ⟨(b5.frozen (p := ⟨g, _, none⟩) hgl).trans (hz _), (b5.frozen (p := ⟨g, _, none⟩) hgl).trans (hz _), (b5.frozen (p := ⟨g, _, none⟩) hgl).trans (hz _), (b5.frozen (p := ⟨g, _, none⟩) hgl).trans (hz _), (b5.frozen (p := ⟨g, _, none⟩) hgl).trans (hz _)⟩, Lib.hid ⟨hs ++ [h], by simp [hl], ho5, ?_⟩⟩
  rw [take_c hx, set5_size]
  have h1 := FrCL.le hfr
  have hfr5 : FrCL w5 (la.take k) (g + 1) w4.heap.size hs := FrCL.up h4.size (FrCL.same _ (fun b _ hu => b5.block b hu) hfr)
  have h2 := FrCL.snoc hf hfr5
  exact FrCL.same _ (fun b hl2 hu => set5_other w5 g k b h (by omega)) h2
theorem PartC.done {w0 wr : World} {g : Nat} {la : List Cl} {m : Nat} (hp : PartC w0 g la m m wr) (hm : la.length = m) : ∃ hs, RowC wr g hs ∧ FrCL wr la (g + 1) wr.heap.size hs := by
  obtain ⟨hs, hl, ho, hfr⟩ := hp
  rw [Nat.sub_self, List.replicate_zero, List.append_nil] at ho
  rw [List.take_of_length_le (by omega)] at hfr
  exact ⟨hs, ho.row, hfr⟩
/-- a new list of claims is returned -/
def NewCs (l : List Cl) (w : World) (e : Ending) (w' : World) : Prop := ∃ A m C, e = .returned (.slice A m C) ∧ m = l.length ∧ (m ≤ C ∧ C ≤ maxLen ∧ (A = none → C = 0)) ∧ (0 < m → ∃ g hs, A = some ⟨g, 0, none⟩ ∧ w.heap.size ≤ g ∧ RowC w' g hs ∧ FrCL w' l (g + 1) w'.heap.size hs) ∧ Below w.heap.size w w'

set_option maxRecDepth 100000 in
set_option maxHeartbeats 4000000 in
theorem mapCopyC_of (l : List Cl) (hok : ∀ t ∈ l, CopyOkC t) (hsz : wts l ≤ 1000000) (b : Option Addr) (m d : Nat) (w : World) (hG : CsW w b m d l) :
    Calls Try.prog 116 #[.slice b m d, .func (.func 107) #[] #[]] w fun e w' => ∃ A C, e = .returned (.slice A m C) ∧ (m ≤ C ∧ C ≤ maxLen ∧ (A = none → C = 0)) ∧ (0 < m → ∃ g hs, A = some ⟨g, 0, none⟩ ∧ w.heap.size ≤ g ∧ RowC w' g hs ∧ FrCL w' l (g + 1) w'.heap.size hs) ∧ Below w.heap.size w w' := by
  have hlen := wts_len l
  have hm : m ≤ 1000000 := by have := hG.1; omega
  by_cases hm0 : m = 0
  · subst hm0
    clear hG hok hsz
    go_enter Try.func116, Try.ntmps116
    go_wp2
    go_ret
    exact ⟨_, _, rfl, ⟨Nat.zero_le _, Nat.zero_le _, fun _ => rfl⟩, fun h => absurd h (by omega), Below.refl _ _⟩
  · have hmk := make_claims m hm w
    have hmd := made_claims m hm w
    obtain ⟨W1, hW1⟩ : ∃ W1, w.alloc (.cells (madeCells #[.int .i64 0, .string ⟨#[]⟩, .string ⟨#[]⟩, .slice none 0 0, .slice none 0 0] (m * 5)) 97) = W1 := ⟨_, rfl⟩
    rw [hW1] at hmk hmd
    have hB1 : Below w.heap.size w W1 := by rw [← hW1]; exact bel_alloc (Below.refl _ _) _
    have hs1 : W1.heap.size = w.heap.size + 1 := by rw [← hW1]; simp
    have hm1 : ((m : Int) == 0) = false := by simp; omega
    have P0 : PartC w w.heap.size l m 0 W1 := ⟨[], rfl, by simpa using hmd, by rw [List.take_zero, FrCL]; exact ⟨by omega, rfl⟩⟩
    have HT := Lib.hid hG
    have HK := Lib.hid (show ∀ k x, l[k]? = some x → CopyOkC x ∧ wt x ≤ 1000000 from fun k x h => ⟨hok x (List.mem_of_getElem? h), by have := wts_mem (List.mem_of_getElem? h); omega⟩)
    have HP0 := Lib.hid P0
    clear hG hok hmd P0 hW1
    go_enter Try.func116, Try.ntmps116
    go_wp2
    go_loopw [16] (fun i wr0 => ∃ (wr : World) (k : Nat), wr = wr0 ∧ k ≤ m ∧ i = .int .i64 k ∧ Below w.heap.size w wr ∧ Hid (PartC w w.heap.size l m k wr)) (fun i _ => m - (intOf i).toNat)
    case atStart => exact ⟨_, 0, rfl, by omega, rfl, hB1, HP0⟩
    case round =>
      obtain ⟨wr, k, rfl, hk, rfl, hB, hR⟩ := hrel
      by_cases hlt : k < m
      · obtain ⟨bb, o, x, kk, A, M, Cc, rfl, hb, y0, y1, y2, y3, y4, hx, hok⟩ := (CsW.b HT.out hB).at hlt
        obtain ⟨W4, hW4, hB4, hs4, S4⟩ := cbox1 wr (opC x) (nmC x) (soC x) kk A M Cc
        obtain ⟨hck, hsx⟩ := HK.out k x hx
        have cc := hck kk A M Cc W4 hsx (ArWC.b hok hB4)
        obtain ⟨f0, f1, f2, f3, f4⟩ := S4.five
        have B4 := bel_trans hB hB4
        have Hx := Lib.hid hx
        clear hx hok HK S4 hck
        generalize opC x = op' at *
        generalize nmC x = nm' at *
        generalize soC x = nu' at *
        have hk0 : 0 ≤ (k : Int) := by omega
        have hk1 : (k : Int) < (m : Int) := by omega
        go_wp2_with (go_at_call 107; ((with_reducible refine cc.mono ?_); rintro e w5 ⟨h, rfl, hF, hb5⟩; obtain ⟨⟨q0, q1, q2, q3, q4⟩, ⟨g0, g1, g2, g3, g4⟩, Hn⟩ := PartC.go hR.out hlt Hx.out hB4 hb5 hF; clear hF))
        go_roundw
        case rel => exact ⟨_, k + 1, rfl, by omega, by go_num, set5_below (bel_trans B4 hb5) (Nat.le_refl _) k _, Hn⟩
        case measure => simp [intOf]; omega
      · obtain rfl : k = m := by omega
        have Hd := Lib.hid (PartC.done hR.out HT.out.1.symm)
        have hcap : k ≤ maxLen := by unfold maxLen; omega
        have Hc := Lib.hid hcap
        clear hR hcap
        go_wp2
        go_ret
        refine ⟨_, _, rfl, ⟨Nat.le_refl _, Hc.out, fun h => by cases h⟩, fun _ => ?_, hB⟩
        obtain ⟨hs, h1, h2⟩ := Hd.out
        exact ⟨w.heap.size, hs, rfl, Nat.le_refl _, h1, h2⟩

set_option maxRecDepth 100000 in
set_option maxHeartbeats 4000000 in
theorem CopyC_step (t : Cl) (hok : ∀ x ∈ subC t, CopyOkC x) : CopyOkC t := by
  intro k a m c w hsz hA
  obtain ⟨W2, hW2, hB2, hs2, S2, R2⟩ := cbox2 w (opC t) (nmC t) (soC t) k a m c 0 ⟨#[]⟩ ⟨#[]⟩ SS.nil none 0 0
  dsimp only [SS.nil] at hW2
  have hsl := wt_mk t
  have hT := ArWC.terms (ArWC.b hA hB2)
  have cT := mapCopy_of (tsC t) (fun x _ => Copy_any x) (by omega) k.a k.n k.c W2 hT
  have cM := fun (w' : World) (hb : Below w.heap.size w w') => mapCopyC_of (subC t) hok (by omega) a m c w' (CsW.b (ArWC.subs hA) hb)
  obtain ⟨s0, s1, s2, s3, s4⟩ := S2.five
  have hm : m = (subC t).length := (ArWC.subs hA).1
  have hn : k.n = (tsC t).length := hT.1
  have HFin := Lib.hid (show ∀ (w3 w3' w4 w5 : World) (A : Option Addr) (C : Nat) (A4 : Option Addr) (C4 : Nat), (k.n ≤ C ∧ C ≤ maxLen ∧ (A = none → C = 0)) → (0 < k.n → ∃ g hs, A = some ⟨g, 0, none⟩ ∧ W2.heap.size ≤ g ∧ Row w3 g hs ∧ FrL w3 (tsC t) (g + 1) w3.heap.size hs) →
      (m ≤ C4 ∧ C4 ≤ maxLen ∧ (A4 = none → C4 = 0)) → (0 < m → ∃ g hs, A4 = some ⟨g, 0, none⟩ ∧ w3'.heap.size ≤ g ∧ RowC w4 g hs ∧ FrCL w4 (subC t) (g + 1) w4.heap.size hs) →
      w.heap.size + 2 ≤ w3.heap.size → w3'.heap.size = w3.heap.size → Below w3'.heap.size w3' w4 → (∀ b, w.heap.size + 2 ≤ b → w3'.heap[b]? = w3.heap[b]?) → w5.heap.size = w4.heap.size → (∀ b, w.heap.size + 2 ≤ b → w5.heap[b]? = w4.heap[b]?) → FrC w5 t w.heap.size w5.heap.size ⟨opC t, nmC t, soC t, ⟨A, k.n, C⟩, A4, m, C4⟩ from fun w3 w3' w4 w5 A C A4 C4 h1 h2 h3 h4 q1 q2 q3 q4 q5 q6 => by
    have q7 := q3.size
    cases t with
    | mk o s z ts l =>
      rw [FrC]
      refine ⟨⟨rfl, rfl, rfl⟩, w3.heap.size, ?_, ⟨hm, h3⟩, by omega, fun hn => ?_⟩
      · unfold FrK
        rw [Fr]
        refine ⟨⟨rfl, rfl, rfl⟩, ⟨hn, h1⟩, by omega, fun hn0 => ?_⟩
        obtain ⟨g, hs, e1, e2, e3, e4⟩ := h2 hn0
        have hsame : ∀ b, w.heap.size + 2 ≤ b → b < w3.heap.size → w5.heap[b]? = w3.heap[b]? := fun b x y => (q6 b x).trans ((q3.block b (by omega)).trans (q4 b x))
        have hlt := e3.lt
        exact ⟨g, hs, e1, by omega, e3.of_block (hsame g (by omega) hlt), FrL.same _ (fun b hl hu => hsame b (by omega) hu) e4⟩
      · obtain ⟨g, hs, e1, e2, e3, e4⟩ := h4 hn
        exact ⟨g, hs, e1, by omega, e3.of_block (q6 g (by omega)), by rw [q5]; exact FrCL.same _ (fun b hl hu => q6 b (by omega)) e4⟩)
  have HS := Lib.hid S2
  have HR := Lib.hid R2
  clear hA hok S2 R2 hm hsz hsl hT hn
  generalize tsC t = ta at *
  generalize subC t = la at *
  generalize opC t = op at *
  generalize nmC t = nm at *
  generalize soC t = so at *
  go_enter Try.func107, Try.ntmps107
  go_wp2_with (first
    | (go_at_call 37; ((with_reducible refine cT.mono ?_); rintro e w3 ⟨A, C, rfl, hc, hr, hb3⟩; have Hc := Lib.hid hc; have Hr := Lib.hid hr; clear hc hr; have S3 := CBox.b HS.out hb3; have R3 := CBox.b HR.out hb3; obtain ⟨u0, u1, u2, u3, u4⟩ := S3.five; obtain ⟨p0, p1, p2, p3, p4⟩ := S3.free; have S3' : CBox (w3.setCell ⟨w.heap.size, 3, none⟩ (.slice A k.n C)) w.heap.size op nm so ⟨A, k.n, C⟩ a m c := (by have := Blk.set S3 3 (.slice A k.n C); simpa [CBox] using this); have R3' := CBox.far R3 (show w.heap.size ≠ w.heap.size + 1 by omega) 3 (.slice A k.n C); obtain ⟨z0, z1, z2, z3, z4⟩ := S3'.five; have hs3 : w.heap.size + 2 ≤ w3.heap.size := (by have := hb3.size; omega); have hB3' : Below w.heap.size w (w3.setCell ⟨w.heap.size, 3, none⟩ (.slice A k.n C)) := below_set (bel_trans hB2 hb3) (Nat.le_refl _) _ _))
    | (go_at_call 116; ((with_reducible refine (cM _ hB3').mono ?_); rintro e w4 ⟨A4, C4, rfl, hc4, hr4, hb4⟩; have Hc4 := Lib.hid hc4; have Hr4 := Lib.hid hr4; have Hb4 := Lib.hid hb4; have hB4' := bel_trans hB3' hb4; have S4 := CBox.b S3' hb4; have R4 := CBox.b R3' hb4; clear hc4 hr4 hb4; obtain ⟨v0, v1, v2, v3, v4⟩ := S4.five; obtain ⟨f0, f1, f2, f3, f4⟩ := S4.free; have S5 : CBox (w4.setCell ⟨w.heap.size, 4, none⟩ (.slice A4 m C4)) w.heap.size op nm so ⟨A, k.n, C⟩ A4 m C4 := (by have := Blk.set S4 4 (.slice A4 m C4); simpa [CBox] using this); have R5 := CBox.far R4 (show w.heap.size ≠ w.heap.size + 1 by omega) 4 (.slice A4 m C4); obtain ⟨y0, y1, y2, y3, y4⟩ := S5.five; obtain ⟨r0, r1, r2, r3, r4⟩ := R5.free; obtain ⟨t0, t1, t2, t3, t4⟩ := R5.five; have F5 := CBox.put R5 op nm so ⟨A, k.n, C⟩ A4 m C4; unfold put5 at F5; obtain ⟨x0, x1, x2, x3, x4⟩ := F5.five)))
  simp [bodyPost, results, Try.results107, go_sem, x0, x1, x2, x3, x4]
  have hs4 : w.heap.size + 2 ≤ w4.heap.size := by have h0 := Hb4.out.size; simp [World.setCell] at h0; omega
  refine ⟨⟨op, nm, so, ⟨A, k.n, C⟩, A4, m, C4⟩, rfl, HFin.out w3 (w3.setCell ⟨w.heap.size, 3, none⟩ (.slice A k.n C)) w4 _ A C A4 C4 Hc.out Hr.out Hc4.out Hr4.out hs3 (by simp [World.setCell]) Hb4.out (fun b hb => heap_setCell_other w3 ⟨w.heap.size, 3, none⟩ b _ (by show b ≠ w.heap.size; omega)) ?_ (fun b hb => ?_), ?_⟩
  · simp [World.setCell]
  · refine (put5_other _ (w.heap.size + 1) b _ _ _ _ _ (by omega)).trans ?_
    exact heap_setCell_other w4 ⟨w.heap.size, 4, none⟩ b _ (by show b ≠ w.heap.size; omega)
  · exact put5_below (below_set hB4' (Nat.le_refl _) _ _) (by omega) _ _ _ _ _
theorem CopyC_any (t : Cl) : CopyOkC t := Cl.ind CopyC_step t
end Go.Proofs.Yteidknjhponpkaa.C
