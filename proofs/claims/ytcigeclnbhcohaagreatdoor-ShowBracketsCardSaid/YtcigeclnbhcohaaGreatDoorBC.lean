/-
  What is proved: claims in plain words: weight, equality but for the names of binders, exact equality, order; that the order is a total one up to the names of binders. No program is spoken of.
  What is proved: claims in memory: how a slice of claims reads as a list of trees, what keeps it; a claim put into a block; rows of claims of the call's own; claims in new memory.
  What is proved: an argument that is a claim reads as a tree; a slice of claims as a list of trees.
  What is proved: stores of a claim into a row; claims in new memory: each in blocks of its own.
  What is proved: claims read in blocks of a given kind, which stand when those blocks stand.
-/
import Derived.Test.YtcigeclnbhcohaaGreatDoorBL
import Derived.Test.YtcigeclnbhcohaaGreatDoorBT
import Derived.Laws.MakeOwn
import Derived.Lib.SmallJoins
import Derived.Deep.Slices
import Derived.Deep.Fields
import Derived.ChangeArms
import Derived.OpenShut
namespace Go.Proofs.YtcigeclnbhcohaaGreatDoor.C
open L T
set_option linter.unusedVariables false
set_option linter.unusedSimpArgs false

inductive Cl where
  | mk (op : Int) (name : ByteArray) (sort : ByteArray) (terms : List Tm) (subs : List Cl)
def opC : Cl → Int | .mk o _ _ _ _ => o
def nmC : Cl → ByteArray | .mk _ s _ _ _ => s
def soC : Cl → ByteArray | .mk _ _ z _ _ => z
def tsC : Cl → List Tm | .mk _ _ _ ts _ => ts
def subC : Cl → List Cl | .mk _ _ _ _ l => l
/-! how many parts, with the terms' parts -/
mutual
def wt : Cl → Nat
  | .mk _ _ _ ts l => 1 + sizes ts + wts l
def wts : List Cl → Nat
  | [] => 0
  | c :: l => wt c + wts l
end
theorem wt_pos : ∀ c : Cl, 0 < wt c
  | .mk _ _ _ _ _ => by rw [wt]; omega
theorem wt_mk (c : Cl) : wt c = 1 + sizes (tsC c) + wts (subC c) := by cases c; rw [wt]; rfl
theorem wts_mem {c : Cl} : ∀ {l : List Cl}, c ∈ l → wt c ≤ wts l
  | [], h => by cases h
  | d :: l, h => by
    rw [wts]
    rcases List.mem_cons.1 h with rfl | h
    · omega
    · have := wts_mem h; omega
theorem wts_len : ∀ l : List Cl, l.length ≤ wts l
  | [] => Nat.le_refl _
  | c :: l => by rw [wts, List.length_cons]; have := wt_pos c; have := wts_len l; omega
theorem Cl.ind {P : Cl → Prop} (h : ∀ c, (∀ x ∈ subC c, P x) → P c) : ∀ c, P c := by
  have : ∀ k c, wt c ≤ k → P c := by
    intro k
    induction k with
    | zero => intro c hc; have := wt_pos c; omega
    | succ k ih => intro c hc; exact h c (fun x hx => ih x (by have := wts_mem hx; have := wt_mk c; omega))
  exact fun c => this _ c (Nat.le_refl _)
/-! counting that stops behind a bound -/
mutual
def wtTo : Nat → Cl → Nat
  | most, .mk _ _ _ ts l => wtTos most (szTos most 1 ts) l
def wtTos : Nat → Nat → List Cl → Nat
  | _, n, [] => n
  | most, n, c :: l => if n ≤ most then wtTos most (n + wtTo (most - n) c) l else n
end
theorem wtTos_ge : ∀ (l : List Cl) (most n : Nat), n ≤ wtTos most n l
  | [], most, n => by rw [wtTos]; exact Nat.le_refl _
  | c :: l, most, n => by
    rw [wtTos]; split
    · have := wtTos_ge l most (n + wtTo (most - n) c); omega
    · exact Nat.le_refl _
theorem szTos_ge : ∀ (l : List Tm) (most n : Nat), n ≤ szTos most n l
  | [], most, n => by rw [szTos]; exact Nat.le_refl _
  | c :: l, most, n => by
    rw [szTos]; split
    · have := szTos_ge l most (n + szTo (most - n) c); omega
    · exact Nat.le_refl _
theorem szTos_le : ∀ (l : List Tm) (most n : Nat), szTos most n l ≤ most → n + sizes l ≤ szTos most n l
  | [], most, n, h => by rw [szTos, sizes]; omega
  | c :: l, most, n, h => by
    rw [szTos] at h ⊢
    rw [sizes]
    by_cases h1 : n ≤ most
    · rw [if_pos h1] at h ⊢
      have h2 := szTos_ge l most (n + szTo (most - n) c)
      have h3 := szTos_le l most _ h
      have h4 : size c ≤ most - n := (szTo_le c (most - n)).1 (by omega)
      have := szTo_small c _ h4
      omega
    · rw [if_neg h1] at h; omega
mutual
theorem wtTo_le : ∀ (c : Cl) (most : Nat), wtTo most c ≤ most → wt c ≤ wtTo most c
  | .mk o s z ts l, most, h => by
    rw [wtTo] at h ⊢
    rw [wt]
    have h1 := wtTos_ge l most (szTos most 1 ts)
    have h2 := szTos_le ts most 1 (by omega)
    have h3 := wtTos_le l most _ h
    omega
theorem wtTos_le : ∀ (l : List Cl) (most n : Nat), wtTos most n l ≤ most → n + wts l ≤ wtTos most n l
  | [], most, n, h => by rw [wtTos, wts]; omega
  | c :: l, most, n, h => by
    rw [wtTos] at h ⊢
    rw [wts]
    by_cases h1 : n ≤ most
    · rw [if_pos h1] at h ⊢
      have h2 := wtTos_ge l most (n + wtTo (most - n) c)
      have h3 := wtTos_le l most _ h
      have h4 := wtTo_le c (most - n) (by omega)
      omega
    · rw [if_neg h1] at h; omega
end
/-! never far beyond the bound -/
theorem szTo_top (t : Tm) (most : Nat) : szTo most t ≤ most + 1 := by
  have : (∀ (t : Tm) (most : Nat), szTo most t ≤ most + 1) := fun t => by
    refine Tm.rec (motive_1 := fun t => ∀ most, szTo most t ≤ most + 1) (motive_2 := fun l => ∀ most n, 1 ≤ n → szTos most n l ≤ max n (most + 1)) ?_ ?_ ?_ t
    · intro o s z l h most; rw [szTo]; have := h most 1 (Nat.le_refl _); omega
    · intro most n _; rw [szTos]; omega
    · intro t l h1 h2 most n hn
      rw [szTos]; split
      · have a := h1 (most - n); have b := h2 most (n + szTo (most - n) t) (by omega); omega
      · omega
  exact this t most
theorem szTos_top : ∀ (l : List Tm) (most n : Nat), szTos most n l ≤ max n (most + 1)
  | [], most, n => by rw [szTos]; omega
  | t :: l, most, n => by
    rw [szTos]; split
    · have a := szTo_top t (most - n); have b := szTos_top l most (n + szTo (most - n) t); omega
    · omega
mutual
theorem wtTo_top : ∀ (c : Cl) (most : Nat), wtTo most c ≤ most + 1
  | .mk o s z ts l, most => by
    rw [wtTo]
    have h1 := szTos_top ts most 1
    have h2 := wtTos_top l most (szTos most 1 ts)
    omega
theorem wtTos_top : ∀ (l : List Cl) (most n : Nat), wtTos most n l ≤ max n (most + 1)
  | [], most, n => by rw [wtTos]; omega
  | c :: l, most, n => by
    rw [wtTos]; split
    · have a := wtTo_top c (most - n); have b := wtTos_top l most (n + wtTo (most - n) c); omega
    · omega
end
/-! equality -/
def bindsC (c : Cl) : Bool := (opC c == 11) || (opC c == 12)
mutual
def eqC : Cl → Cl → Bool
  | .mk o s z ts l, .mk o' s' z' ts' l' => (o == o') && ((z.toList == z'.toList) && (((o == 11) || (o == 12) || (s.toList == s'.toList)) && (eqTs ts ts' && eqCs l l')))
def eqCs : List Cl → List Cl → Bool
  | [], [] => true
  | c :: l, d :: m => eqC c d && eqCs l m
  | [], _ :: _ => false
  | _ :: _, [] => false
end
mutual
def exC : Cl → Cl → Bool
  | .mk o s z ts l, .mk o' s' z' ts' l' => (o == o') && ((z.toList == z'.toList) && ((s.toList == s'.toList) && (eqTs ts ts' && exCs l l')))
def exCs : List Cl → List Cl → Bool
  | [], [] => true
  | c :: l, d :: m => exC c d && exCs l m
  | [], _ :: _ => false
  | _ :: _, [] => false
end
mutual
theorem exC_iff : ∀ {c d : Cl}, exC c d = true ↔ c = d
  | .mk o s z ts l, .mk o' s' z' ts' l' => by
    rw [exC, Bool.and_eq_true, Bool.and_eq_true, Bool.and_eq_true, Bool.and_eq_true, beq_iff_eq, eqS_iff, eqS_iff, eqTs_iff, exCs_iff]
    simp only [Cl.mk.injEq]
    constructor
    · rintro ⟨h1, h2, h3, h4, h5⟩; exact ⟨h1, h3, h2, h4, h5⟩
    · rintro ⟨h1, h2, h3, h4, h5⟩; exact ⟨h1, h3, h2, h4, h5⟩
theorem exCs_iff : ∀ {l m : List Cl}, exCs l m = true ↔ l = m
  | [], [] => by simp [exCs]
  | t :: l, u :: m => by rw [exCs, Bool.and_eq_true, exC_iff, exCs_iff]; simp
  | [], _ :: _ => by simp [exCs]
  | _ :: _, [] => by simp [exCs]
end
theorem exC_refl (c : Cl) : exC c c = true := exC_iff.2 rfl
theorem eqCs_len : ∀ {l m : List Cl}, l.length ≠ m.length → eqCs l m = false
  | [], [], h => absurd rfl h
  | [], _ :: _, _ => rfl
  | _ :: _, [], _ => rfl
  | c :: l, d :: m, h => by rw [eqCs, eqCs_len (fun e => h (by simp [e])), Bool.and_false]
theorem exCs_len : ∀ {l m : List Cl}, l.length ≠ m.length → exCs l m = false
  | [], [], h => absurd rfl h
  | [], _ :: _, _ => rfl
  | _ :: _, [], _ => rfl
  | c :: l, d :: m, h => by rw [exCs, exCs_len (fun e => h (by simp [e])), Bool.and_false]
theorem eqC_mk (c d : Cl) : eqC c d = ((opC c == opC d) && (((soC c).toList == (soC d).toList) && (((opC c == 11) || (opC c == 12) || ((nmC c).toList == (nmC d).toList)) && (eqTs (tsC c) (tsC d) && eqCs (subC c) (subC d))))) := by
  cases c; cases d; rw [eqC]; rfl
theorem exC_mk (c d : Cl) : exC c d = ((opC c == opC d) && (((soC c).toList == (soC d).toList) && (((nmC c).toList == (nmC d).toList) && (eqTs (tsC c) (tsC d) && exCs (subC c) (subC d))))) := by
  cases c; cases d; rw [exC]; rfl
/-! order -/
def nmKey (o : Int) (s : ByteArray) : ByteArray := if o = 11 ∨ o = 12 then ⟨#[]⟩ else s
def cmpTL (l m : List Tm) : Int := lex (cmpI l.length m.length) (cmpTs l m)
theorem cmpTL_mk (l m : List Tm) : cmpTL l m = cmpT (.mk 0 ⟨#[]⟩ 0 l) (.mk 0 ⟨#[]⟩ 0 m) := by
  rw [cmpT, (linI.eq _ _).2 rfl, (linN.eq _ _).2 rfl]; simp [zero_lex, cmpTL]
theorem linTL : Lin cmpTL := by
  refine ⟨fun x y => ?_, fun x y => ?_, fun x y => ?_, fun x y z h1 h2 => ?_⟩
  · rw [cmpTL_mk]; exact linT.rng _ _
  · rw [cmpTL_mk, cmpTL_mk]; exact linT.anti _ _
  · rw [cmpTL_mk, linT.eq]; simp
  · rw [cmpTL_mk] at *; exact linT.trans _ _ _ h1 h2
abbrev KeyC := Int × ByteArray × ByteArray × List Tm × Int
def cmpKC : KeyC → KeyC → Int := lexP cmpI (lexP cmpN (lexP cmpN (lexP cmpTL cmpI)))
theorem linKC : Lin cmpKC := linP linI (linP linN (linP linN (linP linTL linI)))
mutual
def keysC : Cl → List KeyC
  | .mk o s z ts l => (o, nmKey o s, z, ts, (l.length : Int)) :: keysCs l
def keysCs : List Cl → List KeyC
  | [] => []
  | t :: l => keysC t ++ keysCs l
end
mutual
def cmpC : Cl → Cl → Int
  | .mk o s z ts l, .mk o' s' z' ts' l' => lex (cmpI o o') (lex (cmpN (nmKey o s) (nmKey o' s')) (lex (cmpN z z') (lex (cmpTL ts ts') (lex (cmpI l.length l'.length) (cmpCs l l')))))
def cmpCs : List Cl → List Cl → Int
  | [], _ => 0
  | _ :: _, [] => 0
  | t :: l, u :: m => lex (cmpC t u) (cmpCs l m)
end
mutual
theorem cmpC_keys : ∀ (t u : Cl) (xs ys : List KeyC), lexL cmpKC (keysC t ++ xs) (keysC u ++ ys) = lex (cmpC t u) (lexL cmpKC xs ys)
  | .mk o s z ts l, .mk o' s' z' ts' l', xs, ys => by
    rw [keysC, keysC, List.cons_append, List.cons_append, lexL, cmpC]
    show lex (lex (cmpI o o') (lex (cmpN (nmKey o s) (nmKey o' s')) (lex (cmpN z z') (lex (cmpTL ts ts') (cmpI l.length l'.length))))) _ = _
    simp only [lex_assoc]
    by_cases hl : l.length = l'.length
    · rw [cmpCs_keys l l' hl xs ys]
    · have h1 : cmpI l.length l'.length ≠ 0 := fun h => hl (by have := (linI.eq _ _).1 h; omega)
      have e : ∀ y z : Int, lex (cmpI l.length l'.length) y = lex (cmpI l.length l'.length) z := fun y z => by unfold lex; rw [if_pos h1, if_pos h1]
      rw [e _ (lex (cmpCs l l') (lexL cmpKC xs ys))]
theorem cmpCs_keys : ∀ (l m : List Cl), l.length = m.length → ∀ (xs ys : List KeyC), lexL cmpKC (keysCs l ++ xs) (keysCs m ++ ys) = lex (cmpCs l m) (lexL cmpKC xs ys)
  | [], [], _, xs, ys => by rw [cmpCs, zero_lex]; rfl
  | t :: l, u :: m, h, xs, ys => by
    rw [keysCs, keysCs, List.append_assoc, List.append_assoc, cmpC_keys t u, cmpCs_keys l m (by simpa using h), cmpCs, lex_assoc]
  | [], _ :: _, h, _, _ => by simp at h
  | _ :: _, [], h, _, _ => by simp at h
end
theorem cmpC_key (t u : Cl) : cmpC t u = lexL cmpKC (keysC t) (keysC u) := by
  have := cmpC_keys t u [] []
  rw [List.append_nil, List.append_nil, lexL, lex_zero] at this
  exact this.symm
theorem linC : Lin (lexL cmpKC) := linL linKC
theorem nmKey_eq (o : Int) (s s' : ByteArray) : nmKey o s = nmKey o s' ↔ ((o == 11) || (o == 12) || (s.toList == s'.toList)) = true := by
  unfold nmKey
  rw [Bool.or_eq_true, Bool.or_eq_true, beq_iff_eq, beq_iff_eq, eqS_iff]
  by_cases h : o = 11 ∨ o = 12
  · simp [h]
  · simp [h]
theorem cmpTL_zero (l m : List Tm) : cmpTL l m = 0 ↔ eqTs l m = true := by rw [linTL.eq, eqTs_iff]
mutual
theorem cmpC_zero : ∀ (t u : Cl), cmpC t u = 0 ↔ eqC t u = true
  | .mk o s z ts l, .mk o' s' z' ts' l' => by
    rw [cmpC, eqC, lex_eq, lex_eq, lex_eq, lex_eq, lex_eq, linI.eq, linN.eq, linN.eq, linI.eq, Bool.and_eq_true, Bool.and_eq_true, Bool.and_eq_true, Bool.and_eq_true, beq_iff_eq, eqS_iff, cmpTL_zero]
    constructor
    · rintro ⟨rfl, h2, rfl, h4, h5, h6⟩
      exact ⟨rfl, rfl, (nmKey_eq _ _ _).1 h2, h4, (cmpCs_zero l l' (by omega)).1 h6⟩
    · rintro ⟨rfl, rfl, h3, h4, h5⟩
      have hl : l.length = l'.length := by
        refine Decidable.byContradiction fun h => ?_
        rw [eqCs_len h] at h5; cases h5
      exact ⟨rfl, (nmKey_eq _ _ _).2 h3, rfl, h4, by omega, (cmpCs_zero l l' hl).2 h5⟩
theorem cmpCs_zero : ∀ (l m : List Cl), l.length = m.length → (cmpCs l m = 0 ↔ eqCs l m = true)
  | [], [], _ => by simp [cmpCs, eqCs]
  | t :: l, u :: m, h => by rw [cmpCs, eqCs, lex_eq, Bool.and_eq_true, cmpC_zero t u, cmpCs_zero l m (by simpa using h)]
  | [], _ :: _, h => by simp at h
  | _ :: _, [], h => by simp at h
end
theorem eqC_cmp (t u : Cl) : eqC t u = (cmpC t u == 0) := by rw [Bool.eq_iff_iff, beq_iff_eq, cmpC_zero]
theorem cmpC_mk (c d : Cl) : cmpC c d = lex (cmpI (opC c) (opC d)) (lex (cmpN (nmKey (opC c) (nmC c)) (nmKey (opC d) (nmC d))) (lex (cmpN (soC c) (soC d)) (lex (cmpTL (tsC c) (tsC d)) (lex (cmpI (subC c).length (subC d).length) (cmpCs (subC c) (subC d)))))) := by
  cases c; cases d; rw [cmpC]; rfl
theorem cmpC_rng (c d : Cl) : cmpC c d = -1 ∨ cmpC c d = 0 ∨ cmpC c d = 1 := by rw [cmpC_key]; exact linC.rng _ _
theorem cmpC_anti (c d : Cl) : cmpC d c = - cmpC c d := by rw [cmpC_key, cmpC_key]; exact linC.anti _ _
theorem cmpC_self (c : Cl) : cmpC c c = 0 := by rw [cmpC_key, linC.eq]
end Go.Proofs.YtcigeclnbhcohaaGreatDoor.C
namespace Go.Proofs.YtcigeclnbhcohaaGreatDoor.C
open Go.RowKit L T
set_option linter.unusedVariables false
set_option linter.unusedSimpArgs false

/-- a slice's three words -/
structure SS where
  a : Option Addr
  n : Nat
  c : Nat
def SS.nil : SS := ⟨none, 0, 0⟩
abbrev IsK (B : Nat) (w : World) (k : SS) (l : List Tm) : Prop := IsT B w k.a k.n k.c l
mutual
def ArC (B : Nat) (w : World) : Cl → SS → Option Addr → Nat → Nat → Prop
  | .mk _ _ _ ts l, k, a, n, c => IsK B w k ts ∧ n = l.length ∧ n ≤ c ∧ c ≤ maxLen ∧ (a = none → c = 0) ∧ (0 < n → ∃ b o, a = some ⟨b, o, none⟩ ∧ b < B ∧ RwC B w b o l)
def RwC (B : Nat) (w : World) (b : Nat) : Nat → List Cl → Prop
  | _, [] => True
  | o, t :: l => (∃ k a n c, w.cell? ⟨b, o, none⟩ = some (.int .i64 (opC t)) ∧ w.cell? ⟨b, o + 1, none⟩ = some (.string (nmC t)) ∧ w.cell? ⟨b, o + 1 + 1, none⟩ = some (.string (soC t)) ∧ w.cell? ⟨b, o + 1 + 1 + 1, none⟩ = some (.slice k.a k.n k.c) ∧ w.cell? ⟨b, o + 1 + 1 + 1 + 1, none⟩ = some (.slice a n c) ∧ ArC B w t k a n c) ∧ RwC B w b (o + 5) l
end
/-- a slice that reads as these claims -/
def IsC (B : Nat) (w : World) (a : Option Addr) (n c : Nat) (l : List Cl) : Prop :=
  n = l.length ∧ n ≤ c ∧ c ≤ maxLen ∧ (a = none → c = 0) ∧ (0 < n → ∃ b o, a = some ⟨b, o, none⟩ ∧ b < B ∧ RwC B w b o l)
/-- the cells of a claim, and what they lead to -/
def AtC (B : Nat) (w : World) (b o : Nat) (t : Cl) (k : SS) (a : Option Addr) (n c : Nat) : Prop :=
  w.cell? ⟨b, o, none⟩ = some (.int .i64 (opC t)) ∧ w.cell? ⟨b, o + 1, none⟩ = some (.string (nmC t)) ∧ w.cell? ⟨b, o + 1 + 1, none⟩ = some (.string (soC t)) ∧ w.cell? ⟨b, o + 1 + 1 + 1, none⟩ = some (.slice k.a k.n k.c) ∧ w.cell? ⟨b, o + 1 + 1 + 1 + 1, none⟩ = some (.slice a n c) ∧ ArC B w t k a n c
theorem ar_isC {B : Nat} {w : World} {t : Cl} {k : SS} {a : Option Addr} {n c : Nat} : ArC B w t k a n c ↔ IsK B w k (tsC t) ∧ IsC B w a n c (subC t) := by
  cases t; rw [ArC]; rfl
theorem rwc_cons {B : Nat} {w : World} {b o : Nat} {t : Cl} {l : List Cl} : RwC B w b o (t :: l) ↔ (∃ k a n c, AtC B w b o t k a n c) ∧ RwC B w b (o + 5) l := by
  rw [RwC]; rfl
theorem rwc_at {B : Nat} {w : World} {b : Nat} : ∀ {l : List Cl} {o : Nat}, RwC B w b o l ↔ ∀ i (h : i < l.length), ∃ k a n c, AtC B w b (o + i * 5) l[i] k a n c
  | [], o => by rw [RwC]; simp
  | t :: l, o => by
    rw [rwc_cons, rwc_at]
    constructor
    · rintro ⟨h0, h1⟩ i hi
      cases i with
      | zero => simpa using h0
      | succ i =>
        have := h1 i (by simpa using hi)
        rw [show o + (i + 1) * 5 = o + 5 + i * 5 by omega]
        exact this
    · intro h
      refine ⟨by have := h 0 (by simp); rw [Nat.zero_mul, Nat.add_zero] at this; exact this, fun i hi => ?_⟩
      have := h (i + 1) (by simpa using hi)
      rw [show o + (i + 1) * 5 = o + 5 + i * 5 by omega] at this
      exact this
mutual
theorem ArC.bel {B : Nat} {w w' : World} (hb : Below B w w') : ∀ (t : Cl) {k : SS} {a : Option Addr} {n c : Nat}, ArC B w t k a n c → ArC B w' t k a n c
  | .mk o s z ts l, k, a, n, c, h => by
    rw [ArC] at h ⊢
    refine ⟨h.1.bel hb, h.2.1, h.2.2.1, h.2.2.2.1, h.2.2.2.2.1, fun hn => ?_⟩
    obtain ⟨b, o, ha, hlt, hr⟩ := h.2.2.2.2.2 hn
    exact ⟨b, o, ha, hlt, RwC.bel hb hlt l hr⟩
theorem RwC.bel {B : Nat} {w w' : World} (hb : Below B w w') {b : Nat} (hlt : b < B) : ∀ (l : List Cl) {o : Nat}, RwC B w b o l → RwC B w' b o l
  | [], o, h => by rw [RwC]; trivial
  | t :: l, o, h => by
    rw [RwC] at h ⊢
    obtain ⟨⟨k, a, n, c, h0, h1, h2, h3, h4, h5⟩, h6⟩ := h
    exact ⟨⟨k, a, n, c, (hb.cell (p := ⟨b, _, none⟩) hlt).trans h0, (hb.cell (p := ⟨b, _, none⟩) hlt).trans h1, (hb.cell (p := ⟨b, _, none⟩) hlt).trans h2, (hb.cell (p := ⟨b, _, none⟩) hlt).trans h3, (hb.cell (p := ⟨b, _, none⟩) hlt).trans h4, ArC.bel hb t h5⟩, RwC.bel hb hlt l h6⟩
end
mutual
theorem ArC.mono {B B' : Nat} {w : World} (hB : B ≤ B') : ∀ (t : Cl) {k : SS} {a : Option Addr} {n c : Nat}, ArC B w t k a n c → ArC B' w t k a n c
  | .mk o s z ts l, k, a, n, c, h => by
    rw [ArC] at h ⊢
    refine ⟨h.1.mono hB, h.2.1, h.2.2.1, h.2.2.2.1, h.2.2.2.2.1, fun hn => ?_⟩
    obtain ⟨b, o, ha, hlt, hr⟩ := h.2.2.2.2.2 hn
    exact ⟨b, o, ha, by omega, RwC.mono hB l hr⟩
theorem RwC.mono {B B' : Nat} {w : World} (hB : B ≤ B') {b : Nat} : ∀ (l : List Cl) {o : Nat}, RwC B w b o l → RwC B' w b o l
  | [], o, h => by rw [RwC]; trivial
  | t :: l, o, h => by
    rw [RwC] at h ⊢
    obtain ⟨⟨k, a, n, c, h0, h1, h2, h3, h4, h5⟩, h6⟩ := h
    exact ⟨⟨k, a, n, c, h0, h1, h2, h3, h4, ArC.mono hB t h5⟩, RwC.mono hB l h6⟩
end
theorem IsC.bel {B : Nat} {w w' : World} {a : Option Addr} {n c : Nat} {l : List Cl} (h : IsC B w a n c l) (hb : Below B w w') : IsC B w' a n c l :=
  ⟨h.1, h.2.1, h.2.2.1, h.2.2.2.1, fun hn => by
    obtain ⟨b, o, ha, hlt, hr⟩ := h.2.2.2.2 hn
    exact ⟨b, o, ha, hlt, hr.bel hb hlt l⟩⟩
theorem IsC.mono {B B' : Nat} {w : World} {a : Option Addr} {n c : Nat} {l : List Cl} (h : IsC B w a n c l) (hB : B ≤ B') : IsC B' w a n c l :=
  ⟨h.1, h.2.1, h.2.2.1, h.2.2.2.1, fun hn => by
    obtain ⟨b, o, ha, hlt, hr⟩ := h.2.2.2.2 hn
    exact ⟨b, o, ha, by omega, hr.mono hB l⟩⟩
abbrev ArWC (w : World) (t : Cl) (k : SS) (a : Option Addr) (n c : Nat) : Prop := ArC w.heap.size w t k a n c
abbrev CsW (w : World) (a : Option Addr) (n c : Nat) (l : List Cl) : Prop := IsC w.heap.size w a n c l
abbrev KsW (w : World) (k : SS) (l : List Tm) : Prop := IsT w.heap.size w k.a k.n k.c l
theorem ArWC.b {w w' : World} {t : Cl} {k : SS} {a : Option Addr} {n c : Nat} (h : ArWC w t k a n c) (hb : Below w.heap.size w w') : ArWC w' t k a n c := ArC.mono hb.size t (ArC.bel hb t h)
theorem CsW.b {w w' : World} {a : Option Addr} {n c : Nat} {l : List Cl} (h : CsW w a n c l) (hb : Below w.heap.size w w') : CsW w' a n c l := (h.bel hb).mono hb.size
theorem ArWC.subs {w : World} {t : Cl} {k : SS} {a : Option Addr} {n c : Nat} (h : ArWC w t k a n c) : CsW w a n c (subC t) := (ar_isC.1 h).2
theorem ArWC.terms {w : World} {t : Cl} {k : SS} {a : Option Addr} {n c : Nat} (h : ArWC w t k a n c) : KsW w k (tsC t) := (ar_isC.1 h).1
theorem IsC.at {B : Nat} {w : World} {a : Option Addr} {n c i : Nat} {l : List Cl} (h : IsC B w a n c l) (hi : i < n) :
    ∃ b o t k a' n' c', a = some ⟨b, o, none⟩ ∧ b < B ∧ w.cell? ⟨b, o + i * 5, none⟩ = some (.int .i64 (opC t)) ∧ w.cell? ⟨b, o + i * 5 + 1, none⟩ = some (.string (nmC t)) ∧ w.cell? ⟨b, o + i * 5 + 1 + 1, none⟩ = some (.string (soC t)) ∧ w.cell? ⟨b, o + i * 5 + 1 + 1 + 1, none⟩ = some (.slice k.a k.n k.c) ∧ w.cell? ⟨b, o + i * 5 + 1 + 1 + 1 + 1, none⟩ = some (.slice a' n' c') ∧ l[i]? = some t ∧ ArC B w t k a' n' c' := by
  obtain ⟨b, o, ha, hlt, hr⟩ := h.2.2.2.2 (by omega)
  have hi2 : i < l.length := by rw [← h.1]; exact hi
  obtain ⟨k, a', n', c', h0, h1, h2, h3, h4, h5⟩ := rwc_at.1 hr i hi2
  exact ⟨b, o, l[i], k, a', n', c', ha, hlt, h0, h1, h2, h3, h4, List.getElem?_eq_getElem _, h5⟩
theorem drop_c {t : Cl} {l : List Cl} {k : Nat} (h : l[k]? = some t) : l.drop k = t :: l.drop (k + 1) := by
  obtain ⟨hk, rfl⟩ := List.getElem?_eq_some_iff.1 h
  exact List.drop_eq_getElem_cons hk
theorem take_c {t : Cl} {l : List Cl} {k : Nat} (h : l[k]? = some t) : l.take (k + 1) = l.take k ++ [t] := by
  rw [List.take_add_one, h]; rfl

/-! a claim put into a block -/
def CBox (w : World) (g : Nat) (o : Int) (s z : ByteArray) (k : SS) (a : Option Addr) (n c : Nat) : Prop := Blk w g #[.int .i64 o, .string s, .string z, .slice k.a k.n k.c, .slice a n c] 33
theorem CBox.five {w : World} {g : Nat} {o : Int} {s z : ByteArray} {k : SS} {a : Option Addr} {n c : Nat} (h : CBox w g o s z k a n c) :
    w.cell? ⟨g, 0, none⟩ = some (.int .i64 o) ∧ w.cell? ⟨g, 1, none⟩ = some (.string s) ∧ w.cell? ⟨g, 1 + 1, none⟩ = some (.string z) ∧ w.cell? ⟨g, 1 + 1 + 1, none⟩ = some (.slice k.a k.n k.c) ∧ w.cell? ⟨g, 1 + 1 + 1 + 1, none⟩ = some (.slice a n c) := ⟨Blk.cell h 0, Blk.cell h 1, Blk.cell h 2, Blk.cell h 3, Blk.cell h 4⟩
theorem CBox.free {w : World} {g : Nat} {o : Int} {s z : ByteArray} {k : SS} {a : Option Addr} {n c : Nat} (h : CBox w g o s z k a n c) :
    w.frozen? ⟨g, 0, none⟩ = false ∧ w.frozen? ⟨g, 1, none⟩ = false ∧ w.frozen? ⟨g, 2, none⟩ = false ∧ w.frozen? ⟨g, 3, none⟩ = false ∧ w.frozen? ⟨g, 4, none⟩ = false := ⟨Blk.free h 0, Blk.free h 1, Blk.free h 2, Blk.free h 3, Blk.free h 4⟩
theorem CBox.b {w w' : World} {g : Nat} {o : Int} {s z : ByteArray} {k : SS} {a : Option Addr} {n c : Nat} (h : CBox w g o s z k a n c) (hb : Below w.heap.size w w') : CBox w' g o s z k a n c := Blk.below h hb
theorem CBox.new (w : World) (o : Int) (s z : ByteArray) (k : SS) (a : Option Addr) (n c : Nat) : CBox (w.alloc (.cells #[.int .i64 o, .string s, .string z, .slice k.a k.n k.c, .slice a n c] 33)) w.heap.size o s z k a n c := Blk.new w _ _
theorem CBox.far {w : World} {g x : Nat} {o : Int} {s z : ByteArray} {k : SS} {a : Option Addr} {n c : Nat} (h : CBox w g o s z k a n c) (hne : x ≠ g) (j : Nat) (v : Value) : CBox (w.setCell ⟨x, j, none⟩ v) g o s z k a n c := Blk.far h hne j v
/-- all five cells of a block stored -/
def put5 (w : World) (g : Nat) (v0 v1 v2 v3 v4 : Value) : World := ((((w.setCell ⟨g, 0, none⟩ v0).setCell ⟨g, 1, none⟩ v1).setCell ⟨g, 2, none⟩ v2).setCell ⟨g, 3, none⟩ v3).setCell ⟨g, 4, none⟩ v4
theorem CBox.put {w : World} {g : Nat} {o : Int} {s z : ByteArray} {k : SS} {a : Option Addr} {n c : Nat} (h : CBox w g o s z k a n c) (o' : Int) (s' z' : ByteArray) (k' : SS) (a' : Option Addr) (n' c' : Nat) : CBox (put5 w g (.int .i64 o') (.string s') (.string z') (.slice k'.a k'.n k'.c) (.slice a' n' c')) g o' s' z' k' a' n' c' := by
  have := Blk.set (Blk.set (Blk.set (Blk.set (Blk.set h 0 (.int .i64 o')) 1 (.string s')) 2 (.string z')) 3 (.slice k'.a k'.n k'.c)) 4 (.slice a' n' c')
  simpa [put5, CBox] using this
theorem put5_size (w : World) (g : Nat) (v0 v1 v2 v3 v4 : Value) : (put5 w g v0 v1 v2 v3 v4).heap.size = w.heap.size := by simp [put5, World.setCell]
theorem put5_other (w : World) (g i : Nat) (v0 v1 v2 v3 v4 : Value) (hne : i ≠ g) : (put5 w g v0 v1 v2 v3 v4).heap[i]? = w.heap[i]? := by
  unfold put5
  rw [heap_setCell_other _ ⟨g, _, none⟩ i _ hne, heap_setCell_other _ ⟨g, _, none⟩ i _ hne, heap_setCell_other _ ⟨g, _, none⟩ i _ hne, heap_setCell_other _ ⟨g, _, none⟩ i _ hne, heap_setCell_other _ ⟨g, _, none⟩ i _ hne]
theorem put5_below {B g : Nat} {w0 w : World} (hb : Below B w0 w) (hg : B ≤ g) (v0 v1 v2 v3 v4 : Value) : Below B w0 (put5 w g v0 v1 v2 v3 v4) :=
  below_set (below_set (below_set (below_set (below_set hb hg _ _) hg _ _) hg _ _) hg _ _) hg _ _
theorem cbox1 (w : World) (o : Int) (s z : ByteArray) (k : SS) (a : Option Addr) (n c : Nat) :
    ∃ W, w.alloc (.cells #[.int .i64 o, .string s, .string z, .slice k.a k.n k.c, .slice a n c] 33) = W ∧ Below w.heap.size w W ∧ W.heap.size = w.heap.size + 1 ∧ CBox W w.heap.size o s z k a n c :=
  ⟨_, rfl, bel_alloc (Below.refl _ _) _, by simp, CBox.new w o s z k a n c⟩
theorem cbox2 (w : World) (o : Int) (s z : ByteArray) (k : SS) (a : Option Addr) (n c : Nat) (o' : Int) (s' z' : ByteArray) (k' : SS) (a' : Option Addr) (n' c' : Nat) :
    ∃ W, (w.alloc (.cells #[.int .i64 o, .string s, .string z, .slice k.a k.n k.c, .slice a n c] 33)).alloc (.cells #[.int .i64 o', .string s', .string z', .slice k'.a k'.n k'.c, .slice a' n' c'] 33) = W ∧ Below w.heap.size w W ∧ W.heap.size = w.heap.size + 2 ∧ CBox W w.heap.size o s z k a n c ∧ CBox W (w.heap.size + 1) o' s' z' k' a' n' c' := by
  refine ⟨_, rfl, bel_alloc (bel_alloc (Below.refl _ _) _) _, by simp, Blk.alloc (CBox.new w o s z k a n c) _, ?_⟩
  have := CBox.new (w.alloc (.cells #[.int .i64 o, .string s, .string z, .slice k.a k.n k.c, .slice a n c] 33)) o' s' z' k' a' n' c'
  rwa [World.size_alloc] at this

/-! rows of the call's own -/
/-- a claim's five cells -/
structure Hc where
  op : Int
  nm : ByteArray
  so : ByteArray
  k : SS
  a : Option Addr
  n : Nat
  c : Nat
def Hc.cells (h : Hc) : List Value := [.int .i64 h.op, .string h.nm, .string h.so, .slice h.k.a h.k.n h.k.c, .slice h.a h.n h.c]
def Hc.val (h : Hc) : Value := .agg #[.int .i64 h.op, .string h.nm, .string h.so, .slice h.k.a h.k.n h.k.c, .slice h.a h.n h.c]
def Hc.zero : Hc := ⟨0, ⟨#[]⟩, ⟨#[]⟩, SS.nil, none, 0, 0⟩
def hcOf (t : Cl) (k : SS) (a : Option Addr) (n c : Nat) : Hc := ⟨opC t, nmC t, soC t, k, a, n, c⟩
def flatC (hs : List Hc) : List Value := hs.flatMap Hc.cells
theorem flatC_len (hs : List Hc) : (flatC hs).length = hs.length * 5 := by
  unfold flatC
  induction hs with
  | nil => rfl
  | cons h l ih => rw [List.flatMap_cons, List.length_append, ih, List.length_cons]; simp [Hc.cells]; omega
theorem flatC_app (l m : List Hc) : flatC (l ++ m) = flatC l ++ flatC m := by unfold flatC; rw [List.flatMap_append]
theorem flatC_get : ∀ (hs : List Hc) (k j : Nat) (hk : k < hs.length), j < 5 → (flatC hs)[k * 5 + j]? = (hs[k].cells)[j]?
  | [], k, j, hk, _ => absurd hk (by simp)
  | h :: l, 0, j, hk, hj => by
    unfold flatC
    rw [List.flatMap_cons, List.getElem?_append_left (by simp [Hc.cells]; omega)]
    simp
  | h :: l, k + 1, j, hk, hj => by
    have ih := flatC_get l k j (by simpa using hk) hj
    unfold flatC at ih ⊢
    rw [List.flatMap_cons, List.getElem?_append_right (by simp [Hc.cells]; omega)]
    have e : (k + 1) * 5 + j - h.cells.length = k * 5 + j := by simp [Hc.cells]; omega
    rw [e, ih]; simp
theorem flatC_ext {hs : List Hc} {cs : List Value} (hl : hs.length * 5 ≤ cs.length) (h : ∀ k (hk : k < hs.length) j, j < 5 → cs[k * 5 + j]? = (hs[k].cells)[j]?) : cs.take (hs.length * 5) = flatC hs := by
  refine List.ext_getElem? fun i => ?_
  by_cases hi : i < hs.length * 5
  · rw [List.getElem?_take_of_lt hi]
    have hk : i / 5 < hs.length := by omega
    have := h (i / 5) hk (i % 5) (by omega)
    rw [show i / 5 * 5 + i % 5 = i by omega] at this
    rw [this, ← flatC_get hs (i / 5) (i % 5) hk (by omega), show i / 5 * 5 + i % 5 = i by omega]
  · rw [List.getElem?_eq_none (by rw [List.length_take]; omega), List.getElem?_eq_none (by rw [flatC_len]; omega)]
theorem hc_one (hs : List Hc) : ∀ u ∈ flatC hs, u.oneCell' = true := fun u hu => by
  unfold flatC at hu
  obtain ⟨h, _, hu⟩ := List.mem_flatMap.1 hu
  simp [Hc.cells] at hu
  rcases hu with rfl | rfl | rfl | rfl | rfl <;> rfl
theorem claimI : (Tryz.prog.info? 33).map (fun i => (i.zero, i.size, i.bytes)) = some (some (.agg #[.int .i64 0, .string ⟨#[]⟩, .string ⟨#[]⟩, .slice none 0 0, .slice none 0 0]), 5, 88) := by kernel_rfl
/-- a row of the call's own that holds these claims -/
def OwnC (w : World) (base : Nat) (v : Value) (hs : List Hc) : Prop := w.ownsRow base 33 5 v hs.length (flatC hs)
theorem OwnC.nil (w : World) (base : Nat) : OwnC w base (.slice none 0 0) [] := World.ownsRow_nil _ _ _ _
theorem OwnC.below {w w' : World} {base : Nat} {v : Value} {hs : List Hc} (h : OwnC w base v hs) (hb : Below w.heap.size w w') : OwnC w' base v hs := by
  refine ⟨h.1, ?_⟩
  rcases h.2 with hn | ⟨g, cap, cur, rfl, h1, hg, rest⟩
  · exact .inl hn
  · exact .inr ⟨g, cap, cur, rfl, h1, by rw [hb.block g (Array.getElem?_eq_some_iff.1 hg).1]; exact hg, rest⟩
theorem OwnC.at {w : World} {base g n c : Nat} {hs : List Hc} (h : OwnC w base (.slice (some ⟨g, 0, none⟩) n c) hs) {k : Nat} (hk : k < hs.length) :
    w.cell? ⟨g, k * 5, none⟩ = some (.int .i64 hs[k].op) ∧ w.cell? ⟨g, k * 5 + 1, none⟩ = some (.string hs[k].nm) ∧ w.cell? ⟨g, k * 5 + 1 + 1, none⟩ = some (.string hs[k].so) ∧ w.cell? ⟨g, k * 5 + 1 + 1 + 1, none⟩ = some (.slice hs[k].k.a hs[k].k.n hs[k].k.c) ∧ w.cell? ⟨g, k * 5 + 1 + 1 + 1 + 1, none⟩ = some (.slice hs[k].a hs[k].n hs[k].c) := by
  rcases h.2 with ⟨hv, _⟩ | ⟨g', cap, cur, hv, hb, hg, hnc, hcm, hcs, ht⟩
  · cases hv
  · injection hv with h1 h2 h3
    injection h1 with h1
    injection h1 with h1
    subst h1
    have key : ∀ j, j < 5 → w.cell? ⟨g, k * 5 + j, none⟩ = (hs[k].cells)[j]? := fun j hj => by
      rw [cell_of_row w g _ _ _ _ hg, ← flatC_get hs k j hk hj, ← ht, List.getElem?_take_of_lt (by omega), Array.getElem?_toList]
    exact ⟨key 0 (by omega), key 1 (by omega), key 2 (by omega), key 3 (by omega), key 4 (by omega)⟩
theorem OwnC.slice {w : World} {base : Nat} {v : Value} {hs : List Hc} (h : OwnC w base v hs) : ∃ A c, v = .slice A hs.length c ∧ hs.length ≤ c ∧ c ≤ maxLen ∧ (A = none → c = 0) ∧ (0 < hs.length → ∃ g, A = some ⟨g, 0, none⟩ ∧ base ≤ g ∧ g < w.heap.size) := by
  rcases h.2 with ⟨rfl, hn⟩ | ⟨g, cap, cur, rfl, hb, hg, hnc, hcm, hcs, ht⟩
  · exact ⟨none, 0, by rw [hn], by omega, Nat.zero_le _, fun _ => rfl, fun h => absurd h (by omega)⟩
  · exact ⟨_, _, rfl, hnc, hcm, (fun h => by cases h), fun _ => ⟨g, rfl, hb, (Array.getElem?_eq_some_iff.1 hg).1⟩⟩
theorem OwnC.isC {w : World} {base B : Nat} {A : Option Addr} {n c : Nat} {hs : List Hc} {l : List Cl} (h : OwnC w base (.slice A n c) hs) (hB : w.heap.size ≤ B) (hl : l.length = hs.length)
    (ha : ∀ k (hk : k < l.length) (hk2 : k < hs.length), hs[k].op = opC l[k] ∧ hs[k].nm = nmC l[k] ∧ hs[k].so = soC l[k] ∧ ArC B w l[k] hs[k].k hs[k].a hs[k].n hs[k].c) : IsC B w A n c l := by
  obtain ⟨A', c', hv, h1, h2, h3, h4⟩ := h.slice
  injection hv with e1 e2 e3
  subst e1 e2 e3
  refine ⟨hl.symm, h1, h2, h3, fun hn => ?_⟩
  obtain ⟨g, rfl, hb, hlt⟩ := h4 hn
  refine ⟨g, 0, rfl, by omega, rwc_at.2 fun k hk => ?_⟩
  have hk2 : k < hs.length := by omega
  obtain ⟨c0, c1, c2, c3, c4⟩ := h.at hk2
  obtain ⟨e1, e2, e3, e4⟩ := ha k hk hk2
  rw [Nat.zero_add]
  exact ⟨_, _, _, _, by rw [← e1]; exact c0, by rw [← e2]; exact c1, by rw [← e3]; exact c2, c3, c4, e4⟩
end Go.Proofs.YtcigeclnbhcohaaGreatDoor.C
namespace Go.Proofs.YtcigeclnbhcohaaGreatDoor.C
open Go.RowKit Go.Deep Go.ChangeShapes Go.WideShapes Go.Joins L T
set_option linter.unusedVariables false

section
variable {H : Type} {enc : TypeId × Value → H} {W : World} {sp : Nat → Bool}
/-- one claim in five cells -/
def FiveOk (W : World) (cs : List Value) (t : Cl) (k : SS) (a : Option Addr) (n c : Nat) : Prop := cs = [.int .i64 (opC t), .string (nmC t), .string (soC t), .slice k.a k.n k.c, .slice a n c] ∧ ArWC W t k a n c
set_option maxRecDepth 100000 in
theorem five_of {v0 v1 v2 v3 v4 : Value} {n0 n1 n2 n3 n4 : Nat} {y0 y1 y2 y3 y4 : DataW H × List MemPlace}
    (ih : ∀ m, m ≤ n4 → ∀ (cs : List Value) (x : DataW H × List MemPlace), DataW.trod enc Tryz.prog W 0 (fun _ => true) true m 33 cs = some x → ∃ t k a n c, FiveOk W cs t k a n c)
    (g0 : DataW.trod enc Tryz.prog W 0 (fun _ => true) true n0 3 [v0] = some y0) (g1 : DataW.trod enc Tryz.prog W 0 (fun _ => true) true n1 9 [v1] = some y1)
    (g2 : DataW.trod enc Tryz.prog W 0 (fun _ => true) true n2 9 [v2] = some y2) (g3 : DataW.trod enc Tryz.prog W 0 (fun _ => true) true n3 22 [v3] = some y3) (g4 : DataW.trod enc Tryz.prog W 0 (fun _ => true) true n4 31 [v4] = some y4) :
    ∃ t k a n c, FiveOk W [v0, v1, v2, v3, v4] t k a n c := by
  obtain ⟨o, e0, _, _⟩ := DataW.trod_int (k := .i64) Tryz.underlying3 g0
  obtain ⟨s, e1, _, _⟩ := DataW.trod_string Tryz.underlying9 g1
  obtain ⟨z, e2, _, _⟩ := DataW.trod_string Tryz.underlying9 g2
  obtain rfl : v0 = .int .i64 o := by simpa using e0
  obtain rfl : v1 = .string s := by simpa using e1
  obtain rfl : v2 = .string z := by simpa using e2
  obtain ⟨ka, kn, kc, rfl⟩ : ∃ ka kn kc, v3 = .slice ka kn kc := by
    rcases DataW.trod_slice Tryz.underlying22 g3 with h0 | ⟨ad, len, cap, elems, rest, n, hn, hcs, _⟩
    · exact ⟨none, 0, 0, by simpa using h0.1⟩
    · exact ⟨some ad, len, cap, by simpa using hcs⟩
  obtain ⟨ts, _, hts⟩ := terms_open_all (enc := enc) (W := W) (a := ka) (n := kn) (c := kc) ⟨n3, by simpa [Value.cells] using g3⟩
  rcases DataW.trod_slice Tryz.underlying31 g4 with h0 | ⟨ad, len, cap, elems, rest, n, hn, hcs, _, _, hl, hmx, hlen, hi, _⟩
  · obtain rfl : v4 = .slice none 0 0 := by simpa using h0.1
    exact ⟨.mk o s z ts [], ⟨ka, kn, kc⟩, none, 0, 0, rfl, by unfold ArWC; rw [ArC]; exact ⟨hts, rfl, Nat.le_refl _, Nat.zero_le _, fun _ => rfl, fun h => absurd h (by omega)⟩⟩
  · obtain rfl : v4 = .slice (some ad) len cap := by simpa using hcs
    have hC : Tryz.prog.cellsOf 33 = 5 := by kernel_rfl
    obtain ⟨Y, hY, hall⟩ := list_ofT len (P := fun i (t : Cl) => ∃ k a n c, W.cell? (ad.add (i * 5)) = some (.int .i64 (opC t)) ∧ W.cell? ((ad.add (i * 5)).add 1) = some (.string (nmC t)) ∧ W.cell? ((ad.add (i * 5)).add 2) = some (.string (soC t)) ∧ W.cell? ((ad.add (i * 5)).add 3) = some (.slice (SS.a k) (SS.n k) (SS.c k)) ∧ W.cell? ((ad.add (i * 5)).add 4) = some (.slice a n c) ∧ ArWC W t k a n c) (fun i hin => by
      have hq := hi i (by omega)
      rw [List.getElem?_eq_getElem (show i < elems.length by omega)] at hq
      obtain ⟨cs', h1, h2⟩ := Option.bind_eq_some_iff.1 hq
      rw [hC] at h1
      obtain ⟨_, hl2, hat⟩ := World.cells?_some h1
      obtain ⟨t, k, a, n', c, hf, hr⟩ := ih n (by omega) _ _ h2
      subst hf
      exact ⟨t, k, a, n', c, by simpa [Addr.add] using hat 0 (by simp), hat 1 (by simp), hat 2 (by simp), hat 3 (by simp), hat 4 (by simp), hr⟩)
    refine ⟨.mk o s z ts Y, ⟨ka, kn, kc⟩, some ad, len, cap, rfl, ?_⟩
    unfold ArWC
    rw [ArC]
    refine ⟨hts, hY.symm, hl, hmx, fun h => (by cases h), fun hn => ?_⟩
    obtain ⟨b, off, spot⟩ := ad
    have hspot : spot = none := by
      obtain ⟨_, _, _, _, h1, _⟩ := hall 0 (by omega)
      simpa [Addr.add] using World.cell?_spot h1
    subst hspot
    refine ⟨b, off, rfl, ?_, rwc_at.2 fun i hi2 => ?_⟩
    · obtain ⟨_, _, _, _, h1, _⟩ := hall 0 (by omega)
      rw [Go.WideShapes.add_plain] at h1
      exact World.block_lt_of_cell? _ _ h1
    · obtain ⟨k, a, n, c, h1, h2, h3, h4, h5, h6⟩ := hall i hi2
      rw [Go.WideShapes.add_plain] at h1 h2 h3 h4 h5
      rw [Go.WideShapes.add_plain] at h2 h3 h4 h5
      exact ⟨k, a, n, c, h1, h2, h3, h4, h5, h6⟩
set_option maxRecDepth 100000 in
theorem claim_cells : ∀ (N fuel : Nat), fuel ≤ N → ∀ (cs : List Value) (x : DataW H × List MemPlace), DataW.trod enc Tryz.prog W 0 (fun _ => true) true fuel 33 cs = some x → ∃ t k a n c, FiveOk W cs t k a n c
  | 0, fuel, hf, cs, x, h => by
    obtain rfl : fuel = 0 := by omega
    simp [DataW.trod] at h
  | N + 1, fuel, hf, cs, x, h => by
    obtain ⟨xs, n, hn, _, hcl, hxl, hi⟩ := DataW.trod_struct Tryz.underlying33 h
    have hC : Tryz.prog.cellsOf 33 = 5 := by kernel_rfl
    rw [hC] at hcl
    match cs, hcl with
    | [c0, c1, c2, c3, c4], _ =>
      match xs, hxl with
      | [x0, x1, x2, x3, x4], _ =>
        have g0 : DataW.trod enc Tryz.prog W 0 (fun _ => true) true n 3 (([c0, c1, c2, c3, c4].drop 0).take (Tryz.prog.cellsOf 3)) = some x0 := hi 0 _ rfl
        have g1 : DataW.trod enc Tryz.prog W 0 (fun _ => true) true n 9 (([c0, c1, c2, c3, c4].drop 1).take (Tryz.prog.cellsOf 9)) = some x1 := hi 1 _ rfl
        have g2 : DataW.trod enc Tryz.prog W 0 (fun _ => true) true n 9 (([c0, c1, c2, c3, c4].drop 2).take (Tryz.prog.cellsOf 9)) = some x2 := hi 2 _ rfl
        have g3 : DataW.trod enc Tryz.prog W 0 (fun _ => true) true n 22 (([c0, c1, c2, c3, c4].drop 3).take (Tryz.prog.cellsOf 22)) = some x3 := hi 3 _ rfl
        have g4 : DataW.trod enc Tryz.prog W 0 (fun _ => true) true n 31 (([c0, c1, c2, c3, c4].drop 4).take (Tryz.prog.cellsOf 31)) = some x4 := hi 4 _ rfl
        have z2 : Tryz.prog.cellsOf 9 = 1 := by kernel_rfl
        have z3 : Tryz.prog.cellsOf 22 = 1 := by kernel_rfl
        have z4 : Tryz.prog.cellsOf 31 = 1 := by kernel_rfl
        have z0 : Tryz.prog.cellsOf 3 = 1 := by kernel_rfl
        rw [z0] at g0
        rw [z2] at g1 g2
        rw [z3] at g3
        rw [z4] at g4
        exact five_of (fun m hm cs' x' h' => claim_cells N m (by omega) cs' x' h') g0 g1 g2 g3 g4

/-- a claim's value and what it reads as -/
structure ClV where
  t : Cl
  k : SS
  a : Option Addr
  n : Nat
  c : Nat
def ClV.val (z : ClV) : Value := .agg #[.int .i64 (opC z.t), .string (nmC z.t), .string (soC z.t), .slice z.k.a z.k.n z.k.c, .slice z.a z.n z.c]
section
variable {P : Program} {w : World} {base : Nat} {spare : Nat → Bool} {held : Bool}
theorem array5C {cs : Array Value} (h : cs.size = 5) : ∃ c0 c1 c2 c3 c4, cs = #[c0, c1, c2, c3, c4] := by
  obtain ⟨l⟩ := cs
  match l, h with
  | [c0, c1, c2, c3, c4], _ => exact ⟨c0, c1, c2, c3, c4, rfl⟩
theorem open_agg5C {r : Reach} {b0 : Nat} {t : TypeId} {f0 f1 f2 f3 f4 : Field} {v : Value} {d : DataW H} {p : List MemPlace} (hs : P.underlying t = some (.struct #[f0, f1, f2, f3, f4])) (hone : oneCellFields P #[f0, f1, f2, f3, f4] = true) (hC : P.cellsOf t = 5)
    (hv : Value.okWide P w r b0 t v) (h : DataW.Trod enc P w base spare held t v d p) :
    ∃ (v0 v1 v2 v3 v4 : Value) (y0 y1 y2 y3 y4 : DataW H × List MemPlace) (n : Nat), v = .agg #[v0, v1, v2, v3, v4] ∧
      DataW.trod enc P w base spare held n f0.type [v0] = some y0 ∧ DataW.trod enc P w base spare held n f1.type [v1] = some y1 ∧ DataW.trod enc P w base spare held n f2.type [v2] = some y2 ∧ DataW.trod enc P w base spare held n f3.type [v3] = some y3 ∧ DataW.trod enc P w base spare held n f4.type [v4] = some y4 := by
  obtain ⟨cs, rfl, hsz⟩ := okWide_struct hs hv
  obtain ⟨c0, c1, c2, c3, c4, rfl⟩ := array5C (hsz.trans hC)
  obtain ⟨fuel, hf⟩ := h
  obtain ⟨xs, n, _, _, hl, hlen, hi⟩ := DataW.trod_struct hs hf
  obtain ⟨o0, k0⟩ := hone_of hone 0 f0 rfl
  obtain ⟨o1, k1⟩ := hone_of hone 1 f1 rfl
  obtain ⟨o2, k2⟩ := hone_of hone 2 f2 rfl
  obtain ⟨o3, k3⟩ := hone_of hone 3 f3 rfl
  obtain ⟨o4, k4⟩ := hone_of hone 4 f4 rfl
  match xs, hlen with
  | [y0, y1, y2, y3, y4], _ =>
    have h0 := hi 0 f0 rfl
    have h1 := hi 1 f1 rfl
    have h2 := hi 2 f2 rfl
    have h3 := hi 3 f3 rfl
    have h4 := hi 4 f4 rfl
    exact ⟨c0, c1, c2, c3, c4, y0, y1, y2, y3, y4, n, rfl, by simpa [Value.cells, o0, k0] using h0, by simpa [Value.cells, o1, k1] using h1, by simpa [Value.cells, o2, k2] using h2, by simpa [Value.cells, o3, k3] using h3, by simpa [Value.cells, o4, k4] using h4⟩
end
set_option maxRecDepth 100000 in
theorem claim_open_all {r : Reach} {b0 : Nat} {v : Value} {d : DataW H} {p : List MemPlace} (hv : Value.okWide Tryz.prog W r b0 33 v) (h : DataW.Trod enc Tryz.prog W 0 (fun _ => true) true 33 v d p) :
    ∃ z : ClV, v = z.val ∧ ArWC W z.t z.k z.a z.n z.c := by
  obtain ⟨v0, v1, v2, v3, v4, y0, y1, y2, y3, y4, n, rfl, g0, g1, g2, g3, g4⟩ := open_agg5C Tryz.underlying33 (by kernel_rfl) (by kernel_rfl) hv h
  obtain ⟨t, k, a, m, c, hf, hr⟩ := five_of (fun m hm cs' x' h' => claim_cells m m (Nat.le_refl _) cs' x' h') g0 g1 g2 g3 g4
  simp only [List.cons.injEq, and_true] at hf
  obtain ⟨rfl, rfl, rfl, rfl, rfl⟩ := hf
  exact ⟨⟨t, k, a, m, c⟩, rfl, hr⟩
end
end Go.Proofs.YtcigeclnbhcohaaGreatDoor.C
namespace Go.Proofs.YtcigeclnbhcohaaGreatDoor.C
open Go.RowKit L T
set_option linter.unusedVariables false
set_option linter.unusedSimpArgs false

/-- a block whose first cells are these claims -/
def RowC (w : World) (g : Nat) (hs : List Hc) : Prop := ∃ cur, w.heap[g]? = some (.cells cur 33 (0, 0)) ∧ hs.length * 5 ≤ cur.size ∧ cur.toList.take (hs.length * 5) = flatC hs
theorem RowC.lt {w : World} {g : Nat} {hs : List Hc} (h : RowC w g hs) : g < w.heap.size := by
  obtain ⟨cur, hg, _⟩ := h
  exact (Array.getElem?_eq_some_iff.1 hg).1
theorem RowC.of_block {w w' : World} {g : Nat} {hs : List Hc} (h : RowC w g hs) (hb : w'.heap[g]? = w.heap[g]?) : RowC w' g hs := by
  obtain ⟨cur, hg, r⟩ := h
  exact ⟨cur, hb.trans hg, r⟩
theorem RowC.at {w : World} {g : Nat} {hs : List Hc} (h : RowC w g hs) {k : Nat} (hk : k < hs.length) :
    w.cell? ⟨g, k * 5, none⟩ = some (.int .i64 hs[k].op) ∧ w.cell? ⟨g, k * 5 + 1, none⟩ = some (.string hs[k].nm) ∧ w.cell? ⟨g, k * 5 + 1 + 1, none⟩ = some (.string hs[k].so) ∧ w.cell? ⟨g, k * 5 + 1 + 1 + 1, none⟩ = some (.slice hs[k].k.a hs[k].k.n hs[k].k.c) ∧ w.cell? ⟨g, k * 5 + 1 + 1 + 1 + 1, none⟩ = some (.slice hs[k].a hs[k].n hs[k].c) := by
  obtain ⟨cur, hg, hl, ht⟩ := h
  have key : ∀ j, j < 5 → w.cell? ⟨g, k * 5 + j, none⟩ = (hs[k].cells)[j]? := fun j hj => by
    rw [cell_of_row w g _ _ _ _ hg, ← flatC_get hs k j hk hj, ← ht, List.getElem?_take_of_lt (by omega), Array.getElem?_toList]
  exact ⟨key 0 (by omega), key 1 (by omega), key 2 (by omega), key 3 (by omega), key 4 (by omega)⟩
theorem RowC.free {w : World} {g : Nat} {hs : List Hc} (h : RowC w g hs) (k : Nat) : w.frozen? ⟨g, k, none⟩ = false := by
  obtain ⟨cur, hg, _⟩ := h
  exact frozen_of_row w g k _ _ hg
theorem OwnC.row {w : World} {base g n c : Nat} {hs : List Hc} (h : OwnC w base (.slice (some ⟨g, 0, none⟩) n c) hs) : RowC w g hs := by
  rcases h.2 with ⟨hv, _⟩ | ⟨g', cap, cur, hv, hb, hg, hnc, hcm, hcs, ht⟩
  · cases hv
  · injection hv with h1 h2 h3
    injection h1 with h1
    injection h1 with h1
    subst h1
    exact ⟨cur, hg, by omega, ht⟩
/-- a store of one claim into a row -/
def set5 (w : World) (g k : Nat) (h : Hc) : World := ((((w.setCell ⟨g, k * 5, none⟩ (.int .i64 h.op)).setCell ⟨g, k * 5 + 1, none⟩ (.string h.nm)).setCell ⟨g, k * 5 + 2, none⟩ (.string h.so)).setCell ⟨g, k * 5 + 3, none⟩ (.slice h.k.a h.k.n h.k.c)).setCell ⟨g, k * 5 + 4, none⟩ (.slice h.a h.n h.c)
def arr5 (cur : Array Value) (k : Nat) (h : Hc) : Array Value := ((((cur.setIfInBounds (k * 5) (.int .i64 h.op)).setIfInBounds (k * 5 + 1) (.string h.nm)).setIfInBounds (k * 5 + 1 + 1) (.string h.so)).setIfInBounds (k * 5 + 1 + 1 + 1) (.slice h.k.a h.k.n h.k.c)).setIfInBounds (k * 5 + 1 + 1 + 1 + 1) (.slice h.a h.n h.c)
theorem arr5_size (cur : Array Value) (k : Nat) (h : Hc) : (arr5 cur k h).size = cur.size := by simp [arr5]
theorem set5_block {w : World} {g : Nat} {cur : Array Value} {t : TypeId} (k : Nat) (h : Hc) (hg : w.heap[g]? = some (.cells cur t (0, 0))) :
    (set5 w g k h).heap[g]? = some (.cells (arr5 cur k h) t (0, 0)) :=
  heap_setCell_same _ _ _ _ _ _ (heap_setCell_same _ _ _ _ _ _ (heap_setCell_same _ _ _ _ _ _ (heap_setCell_same _ _ _ _ _ _ (heap_setCell_same _ _ _ _ _ _ hg))))
theorem set5_other (w : World) (g k i : Nat) (h : Hc) (hne : i ≠ g) : (set5 w g k h).heap[i]? = w.heap[i]? := by
  unfold set5
  rw [heap_setCell_other _ ⟨g, _, none⟩ i _ hne, heap_setCell_other _ ⟨g, _, none⟩ i _ hne, heap_setCell_other _ ⟨g, _, none⟩ i _ hne, heap_setCell_other _ ⟨g, _, none⟩ i _ hne, heap_setCell_other _ ⟨g, _, none⟩ i _ hne]
theorem set5_size (w : World) (g k : Nat) (h : Hc) : (set5 w g k h).heap.size = w.heap.size := by simp [set5, World.setCell]
theorem set5_below {B g : Nat} {w0 w : World} (hb : Below B w0 w) (hg : B ≤ g) (k : Nat) (h : Hc) : Below B w0 (set5 w g k h) :=
  below_set (below_set (below_set (below_set (below_set hb hg _ _) hg _ _) hg _ _) hg _ _) hg _ _
theorem arr5_get (cur : Array Value) (k : Nat) (h : Hc) (hk : k * 5 + 5 ≤ cur.size) (i : Nat) :
    (arr5 cur k h)[i]? = if k * 5 ≤ i ∧ i < k * 5 + 5 then (h.cells)[i - k * 5]? else cur[i]? := by
  unfold arr5
  by_cases h0 : i = k * 5
  · subst h0
    rw [if_pos (by omega)]
    simp only [Array.getElem?_setIfInBounds, Array.size_setIfInBounds]
    rw [if_neg (by omega), if_neg (by omega), if_neg (by omega), if_neg (by omega), if_pos trivial, if_pos (by omega), Nat.sub_self]; rfl
  by_cases h1 : i = k * 5 + 1
  · subst h1
    rw [if_pos (by omega)]
    simp only [Array.getElem?_setIfInBounds, Array.size_setIfInBounds]
    rw [if_neg (by omega), if_neg (by omega), if_neg (by omega), if_pos trivial, if_pos (by omega), show k * 5 + 1 - k * 5 = 1 by omega]; rfl
  by_cases h2 : i = k * 5 + 1 + 1
  · subst h2
    rw [if_pos (by omega)]
    simp only [Array.getElem?_setIfInBounds, Array.size_setIfInBounds]
    rw [if_neg (by omega), if_neg (by omega), if_pos trivial, if_pos (by omega), show k * 5 + 1 + 1 - k * 5 = 2 by omega]; rfl
  by_cases h3 : i = k * 5 + 1 + 1 + 1
  · subst h3
    rw [if_pos (by omega)]
    simp only [Array.getElem?_setIfInBounds, Array.size_setIfInBounds]
    rw [if_neg (by omega), if_pos trivial, if_pos (by omega), show k * 5 + 1 + 1 + 1 - k * 5 = 3 by omega]; rfl
  by_cases h4 : i = k * 5 + 1 + 1 + 1 + 1
  · subst h4
    rw [if_pos (by omega)]
    simp only [Array.getElem?_setIfInBounds, Array.size_setIfInBounds]
    rw [if_pos trivial, if_pos (by omega), show k * 5 + 1 + 1 + 1 + 1 - k * 5 = 4 by omega]; rfl
  rw [if_neg (by omega), Array.getElem?_setIfInBounds_ne (by omega), Array.getElem?_setIfInBounds_ne (by omega), Array.getElem?_setIfInBounds_ne (by omega), Array.getElem?_setIfInBounds_ne (by omega), Array.getElem?_setIfInBounds_ne (by omega)]
theorem flatC_set (hs : List Hc) (k : Nat) (h : Hc) (hk : k < hs.length) {cur : Array Value} (hl : hs.length * 5 ≤ cur.size) (ht : cur.toList.take (hs.length * 5) = flatC hs) :
    (arr5 cur k h).toList.take ((hs.set k h).length * 5) = flatC (hs.set k h) := by
  refine flatC_ext (by simp [arr5_size]; omega) fun i hi j hj => ?_
  rw [List.length_set] at hi
  rw [Array.getElem?_toList, arr5_get cur k h (by omega)]
  by_cases e : i = k
  · subst e
    rw [if_pos (by omega), show i * 5 + j - i * 5 = j by omega]
    simp
  · rw [if_neg (by omega), ← Array.getElem?_toList, ← List.getElem?_take_of_lt (show i * 5 + j < hs.length * 5 by omega), ht, flatC_get hs i j hi hj, List.getElem_set_ne (fun x => e x.symm)]
theorem RowC.set {w : World} {g : Nat} {hs : List Hc} (hr : RowC w g hs) (k : Nat) (h : Hc) (hk : k < hs.length) : RowC (set5 w g k h) g (hs.set k h) := by
  obtain ⟨cur, hg, hl, ht⟩ := hr
  exact ⟨_, set5_block k h hg, by simp [arr5_size]; omega, flatC_set hs k h hk hl ht⟩
set_option maxHeartbeats 1000000 in
theorem OwnC.set {w : World} {base g n c : Nat} {hs : List Hc} (ho : OwnC w base (.slice (some ⟨g, 0, none⟩) n c) hs) (k : Nat) (h : Hc) (hk : k < hs.length) : OwnC (set5 w g k h) base (.slice (some ⟨g, 0, none⟩) n c) (hs.set k h) := by
  rcases ho.2 with ⟨hv, _⟩ | ⟨g', cap, cur, hv, hb, hg, hnc, hcm, hcs, ht⟩
  · cases hv
  · have hv' := hv
    injection hv with h1 h2 h3
    injection h1 with h1
    injection h1 with h1
    subst h1
    refine ⟨by rw [flatC_len], .inr ⟨g, cap, arr5 cur k h, by rw [List.length_set]; exact hv', hb, set5_block k h hg, (by rw [List.length_set]; exact hnc), hcm, (by rw [arr5_size]; exact hcs), flatC_set hs k h hk (by omega) ht⟩⟩

/-! claims, each in blocks of its own, from lo on and below hi -/
def FrK (w : World) (ts : List Tm) (lo hi : Nat) (k : SS) : Prop := Fr w (.mk 0 ⟨#[]⟩ 0 ts) lo hi ⟨0, ⟨#[]⟩, 0, k.a, k.n, k.c⟩
theorem FrK.le {w : World} {ts : List Tm} {lo hi : Nat} {k : SS} (h : FrK w ts lo hi k) : lo ≤ hi := Fr.le h
theorem FrK.same {w w' : World} {ts : List Tm} {lo hi : Nat} {k : SS} (hb : ∀ b, lo ≤ b → b < hi → w'.heap[b]? = w.heap[b]?) (h : FrK w ts lo hi k) : FrK w' ts lo hi k := Fr.same _ hb h
theorem FrK.down {w : World} {ts : List Tm} {lo lo' hi : Nat} {k : SS} (hl : lo ≤ lo') (h : FrK w ts lo' hi k) : FrK w ts lo hi k := Fr.down hl h
theorem FrK.up {w : World} {ts : List Tm} {lo hi hi' : Nat} {k : SS} (hl : hi ≤ hi') (h : FrK w ts lo hi k) : FrK w ts lo hi' k := Fr.up hl h
theorem FrK.ks {w : World} {B : Nat} {ts : List Tm} {lo hi : Nat} {k : SS} (hB : hi ≤ B) (h : FrK w ts lo hi k) : IsK B w k ts := ar_isT.1 (Fr.ar _ hB h)
mutual
def FrC (w : World) : Cl → Nat → Nat → Hc → Prop
  | .mk o s z ts l, lo, hi, h => (h.op = o ∧ h.nm = s ∧ h.so = z) ∧ ∃ mid, FrK w ts lo mid h.k ∧ (h.n = l.length ∧ h.n ≤ h.c ∧ h.c ≤ maxLen ∧ (h.a = none → h.c = 0)) ∧ mid ≤ hi ∧ (0 < h.n → ∃ g hs, h.a = some ⟨g, 0, none⟩ ∧ mid ≤ g ∧ RowC w g hs ∧ FrCL w l (g + 1) hi hs)
def FrCL (w : World) : List Cl → Nat → Nat → List Hc → Prop
  | [], lo, hi, hs => lo ≤ hi ∧ hs = []
  | t :: l, lo, hi, hs => ∃ h hs' mid, hs = h :: hs' ∧ FrC w t lo mid h ∧ FrCL w l mid hi hs'
end
theorem FrC.le {w : World} : ∀ {t : Cl} {lo hi : Nat} {h : Hc}, FrC w t lo hi h → lo ≤ hi
  | .mk o s z ts l, lo, hi, h, hf => by
    rw [FrC] at hf
    obtain ⟨_, mid, h1, _, h3, _⟩ := hf
    exact Nat.le_trans h1.le h3
theorem FrCL.le {w : World} : ∀ {l : List Cl} {lo hi : Nat} {hs : List Hc}, FrCL w l lo hi hs → lo ≤ hi
  | [], lo, hi, hs, hf => by rw [FrCL] at hf; exact hf.1
  | t :: l, lo, hi, hs, hf => by
    rw [FrCL] at hf
    obtain ⟨h, hs', mid, _, h1, h2⟩ := hf
    exact Nat.le_trans h1.le (FrCL.le h2)
theorem FrCL.len {w : World} : ∀ {l : List Cl} {lo hi : Nat} {hs : List Hc}, FrCL w l lo hi hs → hs.length = l.length
  | [], lo, hi, hs, hf => by rw [FrCL] at hf; rw [hf.2]; rfl
  | t :: l, lo, hi, hs, hf => by
    rw [FrCL] at hf
    obtain ⟨h, hs', mid, rfl, h1, h2⟩ := hf
    rw [List.length_cons, List.length_cons, FrCL.len h2]
mutual
theorem FrC.up {w : World} : ∀ {t : Cl} {lo hi hi' : Nat} {h : Hc}, hi ≤ hi' → FrC w t lo hi h → FrC w t lo hi' h
  | .mk o s z ts l, lo, hi, hi', h, hh, hf => by
    rw [FrC] at hf ⊢
    obtain ⟨h0, mid, h1, h2, h3, h4⟩ := hf
    refine ⟨h0, mid, h1, h2, Nat.le_trans h3 hh, fun hn => ?_⟩
    obtain ⟨g, hs, e1, e2, e3, e4⟩ := h4 hn
    exact ⟨g, hs, e1, e2, e3, FrCL.up hh e4⟩
theorem FrCL.up {w : World} : ∀ {l : List Cl} {lo hi hi' : Nat} {hs : List Hc}, hi ≤ hi' → FrCL w l lo hi hs → FrCL w l lo hi' hs
  | [], lo, hi, hi', hs, hh, hf => by rw [FrCL] at hf ⊢; exact ⟨Nat.le_trans hf.1 hh, hf.2⟩
  | t :: l, lo, hi, hi', hs, hh, hf => by
    rw [FrCL] at hf ⊢
    obtain ⟨h, hs', mid, h0, h1, h2⟩ := hf
    exact ⟨h, hs', mid, h0, h1, FrCL.up hh h2⟩
end
mutual
theorem FrC.same {w w' : World} : ∀ (t : Cl) {lo hi : Nat} {h : Hc}, (∀ b, lo ≤ b → b < hi → w'.heap[b]? = w.heap[b]?) → FrC w t lo hi h → FrC w' t lo hi h
  | .mk o s z ts l, lo, hi, h, hb, hf => by
    rw [FrC] at hf ⊢
    obtain ⟨h0, mid, h1, h2, h3, h4⟩ := hf
    have l1 := h1.le
    refine ⟨h0, mid, h1.same (fun b x y => hb b x (by omega)), h2, h3, fun hn => ?_⟩
    obtain ⟨g, hs, e1, e2, e3, e4⟩ := h4 hn
    have := FrCL.le e4
    exact ⟨g, hs, e1, e2, e3.of_block (hb g (by omega) (by omega)), FrCL.same l (fun b hl hu => hb b (by omega) hu) e4⟩
theorem FrCL.same {w w' : World} : ∀ (l : List Cl) {lo hi : Nat} {hs : List Hc}, (∀ b, lo ≤ b → b < hi → w'.heap[b]? = w.heap[b]?) → FrCL w l lo hi hs → FrCL w' l lo hi hs
  | [], lo, hi, hs, hb, hf => by rw [FrCL] at hf ⊢; exact hf
  | t :: l, lo, hi, hs, hb, hf => by
    rw [FrCL] at hf ⊢
    obtain ⟨h, hs', mid, h0, h1, h2⟩ := hf
    have l1 := h1.le
    have l2 := FrCL.le h2
    exact ⟨h, hs', mid, h0, FrC.same t (fun b hl hu => hb b hl (by omega)) h1, FrCL.same l (fun b hl hu => hb b (by omega) hu) h2⟩
end
theorem FrC.down {w : World} {lo lo' hi : Nat} (hl : lo ≤ lo') : ∀ {t : Cl} {h : Hc}, FrC w t lo' hi h → FrC w t lo hi h
  | .mk o s z ts l, h, hf => by
    rw [FrC] at hf ⊢
    obtain ⟨h0, mid, h1, h2, h3, h4⟩ := hf
    exact ⟨h0, mid, h1.down hl, h2, h3, h4⟩
theorem FrCL.snoc {w : World} {t : Cl} {h : Hc} {mid hi : Nat} (hf : FrC w t mid hi h) : ∀ {l : List Cl} {lo : Nat} {hs : List Hc}, FrCL w l lo mid hs → FrCL w (l ++ [t]) lo hi (hs ++ [h])
  | [], lo, hs, h1 => by
    rw [FrCL] at h1
    rw [h1.2, List.nil_append, List.nil_append, FrCL]
    exact ⟨h, [], hi, rfl, FrC.down h1.1 hf, by rw [FrCL]; exact ⟨Nat.le_refl _, rfl⟩⟩
  | u :: l, lo, hs, h1 => by
    rw [FrCL] at h1
    obtain ⟨h', hs', mid', rfl, h2, h3⟩ := h1
    rw [List.cons_append, List.cons_append, FrCL]
    exact ⟨h', _, mid', rfl, h2, FrCL.snoc hf h3⟩
theorem FrC.hd {w : World} : ∀ {t : Cl} {lo hi : Nat} {h : Hc}, FrC w t lo hi h → h.op = opC t ∧ h.nm = nmC t ∧ h.so = soC t
  | .mk o s z ts l, lo, hi, h, hf => by rw [FrC] at hf; exact hf.1
mutual
theorem FrC.ar {w : World} {B : Nat} : ∀ (t : Cl) {lo hi : Nat} {h : Hc}, hi ≤ B → FrC w t lo hi h → ArC B w t h.k h.a h.n h.c
  | .mk o s z ts l, lo, hi, h, hB, hf => by
    rw [FrC] at hf
    rw [ArC]
    obtain ⟨h0, mid, h1, h2, h3, h4⟩ := hf
    refine ⟨h1.ks (by omega), h2.1, h2.2.1, h2.2.2.1, h2.2.2.2, fun hn => ?_⟩
    obtain ⟨g, hs, e1, e2, e3, e4⟩ := h4 hn
    have := FrCL.le e4
    have hl := FrCL.len e4
    refine ⟨g, 0, e1, by omega, rwc_at.2 fun k hk => ?_⟩
    have hk2 : k < hs.length := by omega
    obtain ⟨c0, c1, c2, c3, c4⟩ := e3.at hk2
    have h5 := FrCL.ar l hB e4 k hk hk2
    rw [Nat.zero_add]
    exact ⟨_, _, _, _, by rw [← h5.1.1]; exact c0, by rw [← h5.1.2.1]; exact c1, by rw [← h5.1.2.2]; exact c2, c3, c4, h5.2⟩
theorem FrCL.ar {w : World} {B : Nat} : ∀ (l : List Cl) {lo hi : Nat} {hs : List Hc}, hi ≤ B → FrCL w l lo hi hs → ∀ k (hk : k < l.length) (hk2 : k < hs.length), (hs[k].op = opC l[k] ∧ hs[k].nm = nmC l[k] ∧ hs[k].so = soC l[k]) ∧ ArC B w l[k] hs[k].k hs[k].a hs[k].n hs[k].c
  | [], lo, hi, hs, hB, hf, k, hk, _ => absurd hk (by simp)
  | t :: l, lo, hi, hs, hB, hf, k, hk, hk2 => by
    rw [FrCL] at hf
    obtain ⟨h, hs', mid, rfl, h1, h2⟩ := hf
    have l2 := FrCL.le h2
    cases k with
    | zero => exact ⟨h1.hd, FrC.ar t (by omega) h1⟩
    | succ k => exact FrCL.ar l hB h2 k (by simpa using hk) (by simpa using hk2)
end
end Go.Proofs.YtcigeclnbhcohaaGreatDoor.C
namespace Go.Proofs.YtcigeclnbhcohaaGreatDoor.C
open Go.RowKit L T
set_option linter.unusedVariables false
set_option linter.unusedSimpArgs false

def IsTP (P : Nat → Prop) (w : World) (k : SS) (l : List Tm) : Prop := ArP P w (.mk 0 ⟨#[]⟩ 0 l) k.a k.n k.c
mutual
def ArCP (P : Nat → Prop) (w : World) : Cl → SS → Option Addr → Nat → Nat → Prop
  | .mk _ _ _ ts l, k, a, n, c => IsTP P w k ts ∧ n = l.length ∧ n ≤ c ∧ c ≤ maxLen ∧ (a = none → c = 0) ∧ (0 < n → ∃ b o, a = some ⟨b, o, none⟩ ∧ P b ∧ RwCP P w b o l)
def RwCP (P : Nat → Prop) (w : World) (b : Nat) : Nat → List Cl → Prop
  | _, [] => True
  | o, t :: l => (∃ k a n c, w.cell? ⟨b, o, none⟩ = some (.int .i64 (opC t)) ∧ w.cell? ⟨b, o + 1, none⟩ = some (.string (nmC t)) ∧ w.cell? ⟨b, o + 1 + 1, none⟩ = some (.string (soC t)) ∧ w.cell? ⟨b, o + 1 + 1 + 1, none⟩ = some (.slice k.a k.n k.c) ∧ w.cell? ⟨b, o + 1 + 1 + 1 + 1, none⟩ = some (.slice a n c) ∧ ArCP P w t k a n c) ∧ RwCP P w b (o + 5) l
end
mutual
theorem ArCP.to {P Q : Nat → Prop} {w w' : World} (hb : ∀ b, P b → w'.heap[b]? = w.heap[b]?) (hq : ∀ b, P b → Q b) : ∀ (t : Cl) {k : SS} {a : Option Addr} {n c : Nat}, ArCP P w t k a n c → ArCP Q w' t k a n c
  | .mk o s z ts l, k, a, n, c, h => by
    rw [ArCP] at h ⊢
    refine ⟨ArP.to hb hq _ h.1, h.2.1, h.2.2.1, h.2.2.2.1, h.2.2.2.2.1, fun hn => ?_⟩
    obtain ⟨b, o, ha, hp, hr⟩ := h.2.2.2.2.2 hn
    exact ⟨b, o, ha, hq b hp, RwCP.to hb hq hp l hr⟩
theorem RwCP.to {P Q : Nat → Prop} {w w' : World} (hb : ∀ b, P b → w'.heap[b]? = w.heap[b]?) (hq : ∀ b, P b → Q b) {b : Nat} (hp : P b) : ∀ (l : List Cl) {o : Nat}, RwCP P w b o l → RwCP Q w' b o l
  | [], o, h => by rw [RwCP]; trivial
  | t :: l, o, h => by
    rw [RwCP] at h ⊢
    obtain ⟨⟨k, a, n, c, h0, h1, h2, h3, h4, h5⟩, h6⟩ := h
    exact ⟨⟨k, a, n, c, (World.cell?_of_block (hb b hp)).trans h0, (World.cell?_of_block (hb b hp)).trans h1, (World.cell?_of_block (hb b hp)).trans h2, (World.cell?_of_block (hb b hp)).trans h3, (World.cell?_of_block (hb b hp)).trans h4, ArCP.to hb hq t h5⟩, RwCP.to hb hq hp l h6⟩
end
mutual
theorem ArCP.ar {P : Nat → Prop} {w : World} {B : Nat} (hq : ∀ b, P b → b < B) : ∀ (t : Cl) {k : SS} {a : Option Addr} {n c : Nat}, ArCP P w t k a n c → ArC B w t k a n c
  | .mk o s z ts l, k, a, n, c, h => by
    rw [ArCP] at h
    rw [ArC]
    refine ⟨ar_isT.1 (ArP.ar hq _ h.1), h.2.1, h.2.2.1, h.2.2.2.1, h.2.2.2.2.1, fun hn => ?_⟩
    obtain ⟨b, o, ha, hp, hr⟩ := h.2.2.2.2.2 hn
    exact ⟨b, o, ha, hq b hp, RwCP.rw hq l hr⟩
theorem RwCP.rw {P : Nat → Prop} {w : World} {B : Nat} (hq : ∀ b, P b → b < B) {b : Nat} : ∀ (l : List Cl) {o : Nat}, RwCP P w b o l → RwC B w b o l
  | [], o, h => by rw [RwC]; trivial
  | t :: l, o, h => by
    rw [RwCP] at h
    rw [RwC]
    obtain ⟨⟨k, a, n, c, h0, h1, h2, h3, h4, h5⟩, h6⟩ := h
    exact ⟨⟨k, a, n, c, h0, h1, h2, h3, h4, ArCP.ar hq t h5⟩, RwCP.rw hq l h6⟩
end
mutual
theorem ArC.p {w : World} {B : Nat} : ∀ (t : Cl) {k : SS} {a : Option Addr} {n c : Nat}, ArC B w t k a n c → ArCP (fun b => b < B) w t k a n c
  | .mk o s z ts l, k, a, n, c, h => by
    rw [ArC] at h
    rw [ArCP]
    refine ⟨Ar.p _ (ar_isT.2 h.1), h.2.1, h.2.2.1, h.2.2.2.1, h.2.2.2.2.1, fun hn => ?_⟩
    obtain ⟨b, o, ha, hp, hr⟩ := h.2.2.2.2.2 hn
    exact ⟨b, o, ha, hp, RwC.p l hr⟩
theorem RwC.p {w : World} {B : Nat} {b : Nat} : ∀ (l : List Cl) {o : Nat}, RwC B w b o l → RwCP (fun b => b < B) w b o l
  | [], o, h => by rw [RwCP]; trivial
  | t :: l, o, h => by
    rw [RwC] at h
    rw [RwCP]
    obtain ⟨⟨k, a, n, c, h0, h1, h2, h3, h4, h5⟩, h6⟩ := h
    exact ⟨⟨k, a, n, c, h0, h1, h2, h3, h4, ArC.p t h5⟩, RwC.p l h6⟩
end
/-! what lies in fresh blocks is read in these blocks -/
theorem Row.rwP {P : Nat → Prop} {w : World} {g : Nat} {hs : List Hd} {l : List Tm} (hr : Row w g hs) (hl : hs.length = l.length) (h : ∀ k (hk : k < l.length) (hk2 : k < hs.length), (hs[k].op = opT l[k] ∧ hs[k].nm = nameT l[k] ∧ hs[k].nu = numT l[k]) ∧ ArP P w l[k] hs[k].a hs[k].n hs[k].c) : RwP P w g 0 l := by
  refine rwP_of l 0 fun k t hk => ?_
  obtain ⟨hk1, rfl⟩ := List.getElem?_eq_some_iff.1 hk
  have hk2 : k < hs.length := by omega
  obtain ⟨c0, c1, c2, c3⟩ := hr.at hk2
  have h5 := h k hk1 hk2
  rw [Nat.zero_add]
  exact ⟨_, _, _, by rw [← h5.1.1]; exact c0, by rw [← h5.1.2.1]; exact c1, by rw [← h5.1.2.2]; exact c2, c3, h5.2⟩
mutual
theorem Fr.arP {w : World} {P : Nat → Prop} : ∀ (t : Tm) {lo hi : Nat} {h : Hd}, (∀ b, lo ≤ b → b < hi → P b) → Fr w t lo hi h → ArP P w t h.a h.n h.c
  | .mk o s z l, lo, hi, h, hp, hf => by
    rw [Fr] at hf
    rw [ArP]
    refine ⟨hf.2.1.1, hf.2.1.2.1, hf.2.1.2.2.1, hf.2.1.2.2.2, fun hn => ?_⟩
    obtain ⟨g, hs, h1, h2, h3, h4⟩ := hf.2.2.2 hn
    have := FrL.le h4
    exact ⟨g, 0, h1, hp g h2 (by omega), Row.rwP h3 (FrL.len h4) (FrL.arP l (fun b x y => hp b (by omega) y) h4)⟩
theorem FrL.arP {w : World} {P : Nat → Prop} : ∀ (l : List Tm) {lo hi : Nat} {hs : List Hd}, (∀ b, lo ≤ b → b < hi → P b) → FrL w l lo hi hs → ∀ k (hk : k < l.length) (hk2 : k < hs.length), (hs[k].op = opT l[k] ∧ hs[k].nm = nameT l[k] ∧ hs[k].nu = numT l[k]) ∧ ArP P w l[k] hs[k].a hs[k].n hs[k].c
  | [], lo, hi, hs, hp, hf, k, hk, _ => absurd hk (by simp)
  | t :: l, lo, hi, hs, hp, hf, k, hk, hk2 => by
    rw [FrL] at hf
    obtain ⟨h, hs', mid, rfl, h1, h2⟩ := hf
    have l2 := FrL.le h2
    have l1 := h1.le
    cases k with
    | zero => exact ⟨h1.hd, Fr.arP t (fun b x y => hp b x (by omega)) h1⟩
    | succ k => exact FrL.arP l (fun b x y => hp b (by omega) y) h2 k (by simpa using hk) (by simpa using hk2)
end
theorem rwCP_of {P : Nat → Prop} {w : World} {b : Nat} : ∀ (l : List Cl) (o : Nat), (∀ i t, l[i]? = some t → ∃ k a n c, w.cell? ⟨b, o + i * 5, none⟩ = some (.int .i64 (opC t)) ∧ w.cell? ⟨b, o + i * 5 + 1, none⟩ = some (.string (nmC t)) ∧ w.cell? ⟨b, o + i * 5 + 1 + 1, none⟩ = some (.string (soC t)) ∧ w.cell? ⟨b, o + i * 5 + 1 + 1 + 1, none⟩ = some (.slice k.a k.n k.c) ∧ w.cell? ⟨b, o + i * 5 + 1 + 1 + 1 + 1, none⟩ = some (.slice a n c) ∧ ArCP P w t k a n c) → RwCP P w b o l
  | [], o, h => by rw [RwCP]; trivial
  | t :: l, o, h => by
    rw [RwCP]
    refine ⟨?_, rwCP_of l (o + 5) fun i t' hk => ?_⟩
    · have := h 0 t rfl
      rw [Nat.zero_mul, Nat.add_zero] at this
      exact this
    · have := h (i + 1) t' (by simpa using hk)
      rw [show o + (i + 1) * 5 = o + 5 + i * 5 by omega] at this
      exact this
mutual
theorem FrC.arP {w : World} {P : Nat → Prop} : ∀ (t : Cl) {lo hi : Nat} {h : Hc}, (∀ b, lo ≤ b → b < hi → P b) → FrC w t lo hi h → ArCP P w t h.k h.a h.n h.c
  | .mk o s z ts l, lo, hi, h, hp, hf => by
    rw [FrC] at hf
    rw [ArCP]
    obtain ⟨h0, mid, h1, h2, h3, h4⟩ := hf
    have l1 := h1.le
    refine ⟨Fr.arP _ (fun b x y => hp b x (by omega)) h1, h2.1, h2.2.1, h2.2.2.1, h2.2.2.2, fun hn => ?_⟩
    obtain ⟨g, hs, e1, e2, e3, e4⟩ := h4 hn
    have := FrCL.le e4
    have hl := FrCL.len e4
    refine ⟨g, 0, e1, hp g (by omega) (by omega), rwCP_of l 0 fun k t hk => ?_⟩
    obtain ⟨hk1, rfl⟩ := List.getElem?_eq_some_iff.1 hk
    have hk2 : k < hs.length := by omega
    obtain ⟨c0, c1, c2, c3, c4⟩ := e3.at hk2
    have h5 := FrCL.arP l (fun b x y => hp b (by omega) y) e4 k hk1 hk2
    rw [Nat.zero_add]
    exact ⟨_, _, _, _, by rw [← h5.1.1]; exact c0, by rw [← h5.1.2.1]; exact c1, by rw [← h5.1.2.2]; exact c2, c3, c4, h5.2⟩
theorem FrCL.arP {w : World} {P : Nat → Prop} : ∀ (l : List Cl) {lo hi : Nat} {hs : List Hc}, (∀ b, lo ≤ b → b < hi → P b) → FrCL w l lo hi hs → ∀ k (hk : k < l.length) (hk2 : k < hs.length), (hs[k].op = opC l[k] ∧ hs[k].nm = nmC l[k] ∧ hs[k].so = soC l[k]) ∧ ArCP P w l[k] hs[k].k hs[k].a hs[k].n hs[k].c
  | [], lo, hi, hs, hp, hf, k, hk, _ => absurd hk (by simp)
  | t :: l, lo, hi, hs, hp, hf, k, hk, hk2 => by
    rw [FrCL] at hf
    obtain ⟨h, hs', mid, rfl, h1, h2⟩ := hf
    have l2 := FrCL.le h2
    have l1 := h1.le
    cases k with
    | zero => exact ⟨h1.hd, FrC.arP t (fun b x y => hp b x (by omega)) h1⟩
    | succ k => exact FrCL.arP l (fun b x y => hp b (by omega) y) h2 k (by simpa using hk) (by simpa using hk2)
end
/-! it stands where the cells that are read stand -/
mutual
theorem ArP.toC {P Q : Nat → Prop} {w w' : World} (hb : ∀ b o v, P b → w.cell? ⟨b, o, none⟩ = some v → w'.cell? ⟨b, o, none⟩ = some v) (hq : ∀ b, P b → Q b) : ∀ (t : Tm) {a : Option Addr} {n c : Nat}, ArP P w t a n c → ArP Q w' t a n c
  | .mk o s z l, a, n, c, h => by
    rw [ArP] at h ⊢
    refine ⟨h.1, h.2.1, h.2.2.1, h.2.2.2.1, fun hn => ?_⟩
    obtain ⟨b, o, ha, hp, hr⟩ := h.2.2.2.2 hn
    exact ⟨b, o, ha, hq b hp, RwP.toC hb hq hp l hr⟩
theorem RwP.toC {P Q : Nat → Prop} {w w' : World} (hb : ∀ b o v, P b → w.cell? ⟨b, o, none⟩ = some v → w'.cell? ⟨b, o, none⟩ = some v) (hq : ∀ b, P b → Q b) {b : Nat} (hp : P b) : ∀ (l : List Tm) {o : Nat}, RwP P w b o l → RwP Q w' b o l
  | [], o, h => by rw [RwP]; trivial
  | t :: l, o, h => by
    rw [RwP] at h ⊢
    obtain ⟨⟨a, n, c, h0, h1, h2, h3, h4⟩, h5⟩ := h
    exact ⟨⟨a, n, c, hb _ _ _ hp h0, hb _ _ _ hp h1, hb _ _ _ hp h2, hb _ _ _ hp h3, ArP.toC hb hq t h4⟩, RwP.toC hb hq hp l h5⟩
end
mutual
theorem ArCP.toC {P Q : Nat → Prop} {w w' : World} (hb : ∀ b o v, P b → w.cell? ⟨b, o, none⟩ = some v → w'.cell? ⟨b, o, none⟩ = some v) (hq : ∀ b, P b → Q b) : ∀ (t : Cl) {k : SS} {a : Option Addr} {n c : Nat}, ArCP P w t k a n c → ArCP Q w' t k a n c
  | .mk o s z ts l, k, a, n, c, h => by
    rw [ArCP] at h ⊢
    refine ⟨ArP.toC hb hq _ h.1, h.2.1, h.2.2.1, h.2.2.2.1, h.2.2.2.2.1, fun hn => ?_⟩
    obtain ⟨b, o, ha, hp, hr⟩ := h.2.2.2.2.2 hn
    exact ⟨b, o, ha, hq b hp, RwCP.toC hb hq hp l hr⟩
theorem RwCP.toC {P Q : Nat → Prop} {w w' : World} (hb : ∀ b o v, P b → w.cell? ⟨b, o, none⟩ = some v → w'.cell? ⟨b, o, none⟩ = some v) (hq : ∀ b, P b → Q b) {b : Nat} (hp : P b) : ∀ (l : List Cl) {o : Nat}, RwCP P w b o l → RwCP Q w' b o l
  | [], o, h => by rw [RwCP]; trivial
  | t :: l, o, h => by
    rw [RwCP] at h ⊢
    obtain ⟨⟨k, a, n, c, h0, h1, h2, h3, h4, h5⟩, h6⟩ := h
    exact ⟨⟨k, a, n, c, hb _ _ _ hp h0, hb _ _ _ hp h1, hb _ _ _ hp h2, hb _ _ _ hp h3, hb _ _ _ hp h4, ArCP.toC hb hq t h5⟩, RwCP.toC hb hq hp l h6⟩
end
end Go.Proofs.YtcigeclnbhcohaaGreatDoor.C
