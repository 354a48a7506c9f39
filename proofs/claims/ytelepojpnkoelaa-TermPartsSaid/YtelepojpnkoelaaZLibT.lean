/-
  What is proved: terms in memory: how a slice of terms reads as a list of trees, what keeps it; a term put into a block.
-/
import Derived.Test.YtelepojpnkoelaaZLibN
import Derived.Test.YtelepojpnkoelaaZLibE
namespace Go.Proofs.Ytelepojpnkoelaa.T
open Go.RowKit L
set_option linter.unusedVariables false
set_option linter.unusedSimpArgs false

def numT : Tm → Int | .mk _ _ z _ => z
def argsT : Tm → List Tm | .mk _ _ _ l => l
/-! a term's Args slice (in blocks below B); a row of terms -/
mutual
def Ar (B : Nat) (w : World) : Tm → Option Addr → Nat → Nat → Prop
  | .mk _ _ _ l, a, n, c => n = l.length ∧ n ≤ c ∧ c ≤ maxLen ∧ (a = none → c = 0) ∧ (0 < n → ∃ b o, a = some ⟨b, o, none⟩ ∧ b < B ∧ Rw B w b o l)
def Rw (B : Nat) (w : World) (b : Nat) : Nat → List Tm → Prop
  | _, [] => True
  | o, t :: l => (∃ a n c, w.cell? ⟨b, o, none⟩ = some (.int .i64 (opT t)) ∧ w.cell? ⟨b, o + 1, none⟩ = some (.string (nameT t)) ∧ w.cell? ⟨b, o + 1 + 1, none⟩ = some (.int .i64 (numT t)) ∧ w.cell? ⟨b, o + 1 + 1 + 1, none⟩ = some (.slice a n c) ∧ Ar B w t a n c) ∧ Rw B w b (o + 4) l
end
/-- a slice that reads as these terms -/
def IsT (B : Nat) (w : World) (a : Option Addr) (n c : Nat) (l : List Tm) : Prop :=
  n = l.length ∧ n ≤ c ∧ c ≤ maxLen ∧ (a = none → c = 0) ∧ (0 < n → ∃ b o, a = some ⟨b, o, none⟩ ∧ b < B ∧ Rw B w b o l)
/-- the four cells of a term, and what they lead to -/
def At (B : Nat) (w : World) (b o : Nat) (t : Tm) (a : Option Addr) (n c : Nat) : Prop :=
  w.cell? ⟨b, o, none⟩ = some (.int .i64 (opT t)) ∧ w.cell? ⟨b, o + 1, none⟩ = some (.string (nameT t)) ∧ w.cell? ⟨b, o + 1 + 1, none⟩ = some (.int .i64 (numT t)) ∧ w.cell? ⟨b, o + 1 + 1 + 1, none⟩ = some (.slice a n c) ∧ Ar B w t a n c
theorem ar_isT {B : Nat} {w : World} {t : Tm} {a : Option Addr} {n c : Nat} : Ar B w t a n c ↔ IsT B w a n c (argsT t) := by
  cases t; rw [Ar]; rfl
theorem rw_cons {B : Nat} {w : World} {b o : Nat} {t : Tm} {l : List Tm} : Rw B w b o (t :: l) ↔ (∃ a n c, At B w b o t a n c) ∧ Rw B w b (o + 4) l := by
  rw [Rw]; rfl
theorem rw_at {B : Nat} {w : World} {b : Nat} : ∀ {l : List Tm} {o : Nat}, Rw B w b o l ↔ ∀ k (h : k < l.length), ∃ a n c, At B w b (o + k * 4) l[k] a n c
  | [], o => by rw [Rw]; simp
  | t :: l, o => by
    rw [rw_cons, rw_at]
    constructor
    · rintro ⟨h0, h1⟩ k hk
      cases k with
      | zero => simpa using h0
      | succ k =>
        have := h1 k (by simpa using hk)
        rw [show o + (k + 1) * 4 = o + 4 + k * 4 by omega]
        exact this
    · intro h
      refine ⟨by have := h 0 (by simp); rw [Nat.zero_mul, Nat.add_zero] at this; exact this, fun k hk => ?_⟩
      have := h (k + 1) (by simpa using hk)
      rw [show o + (k + 1) * 4 = o + 4 + k * 4 by omega] at this
      exact this
mutual
theorem Ar.bel {B : Nat} {w w' : World} (hb : Below B w w') : ∀ (t : Tm) {a : Option Addr} {n c : Nat}, Ar B w t a n c → Ar B w' t a n c
  | .mk o s z l, a, n, c, h => by
    rw [Ar] at h ⊢
    refine ⟨h.1, h.2.1, h.2.2.1, h.2.2.2.1, fun hn => ?_⟩
    obtain ⟨b, o, ha, hlt, hr⟩ := h.2.2.2.2 hn
    exact ⟨b, o, ha, hlt, Rw.bel hb hlt l hr⟩
theorem Rw.bel {B : Nat} {w w' : World} (hb : Below B w w') {b : Nat} (hlt : b < B) : ∀ (l : List Tm) {o : Nat}, Rw B w b o l → Rw B w' b o l
  | [], o, h => by rw [Rw]; trivial
  | t :: l, o, h => by
    rw [Rw] at h ⊢
    obtain ⟨⟨a, n, c, h0, h1, h2, h3, h4⟩, h5⟩ := h
    exact ⟨⟨a, n, c, (hb.cell (p := ⟨b, _, none⟩) hlt).trans h0, (hb.cell (p := ⟨b, _, none⟩) hlt).trans h1, (hb.cell (p := ⟨b, _, none⟩) hlt).trans h2, (hb.cell (p := ⟨b, _, none⟩) hlt).trans h3, Ar.bel hb t h4⟩, Rw.bel hb hlt l h5⟩
end
mutual
theorem Ar.mono {B B' : Nat} {w : World} (hB : B ≤ B') : ∀ (t : Tm) {a : Option Addr} {n c : Nat}, Ar B w t a n c → Ar B' w t a n c
  | .mk o s z l, a, n, c, h => by
    rw [Ar] at h ⊢
    refine ⟨h.1, h.2.1, h.2.2.1, h.2.2.2.1, fun hn => ?_⟩
    obtain ⟨b, o, ha, hlt, hr⟩ := h.2.2.2.2 hn
    exact ⟨b, o, ha, by omega, Rw.mono hB l hr⟩
theorem Rw.mono {B B' : Nat} {w : World} (hB : B ≤ B') {b : Nat} : ∀ (l : List Tm) {o : Nat}, Rw B w b o l → Rw B' w b o l
  | [], o, h => by rw [Rw]; trivial
  | t :: l, o, h => by
    rw [Rw] at h ⊢
    obtain ⟨⟨a, n, c, h0, h1, h2, h3, h4⟩, h5⟩ := h
    exact ⟨⟨a, n, c, h0, h1, h2, h3, Ar.mono hB t h4⟩, Rw.mono hB l h5⟩
end
theorem IsT.bel {B : Nat} {w w' : World} {a : Option Addr} {n c : Nat} {l : List Tm} (h : IsT B w a n c l) (hb : Below B w w') : IsT B w' a n c l :=
  ⟨h.1, h.2.1, h.2.2.1, h.2.2.2.1, fun hn => by
    obtain ⟨b, o, ha, hlt, hr⟩ := h.2.2.2.2 hn
    exact ⟨b, o, ha, hlt, hr.bel hb hlt l⟩⟩
theorem IsT.mono {B B' : Nat} {w : World} {a : Option Addr} {n c : Nat} {l : List Tm} (h : IsT B w a n c l) (hB : B ≤ B') : IsT B' w a n c l :=
  ⟨h.1, h.2.1, h.2.2.1, h.2.2.2.1, fun hn => by
    obtain ⟨b, o, ha, hlt, hr⟩ := h.2.2.2.2 hn
    exact ⟨b, o, ha, by omega, hr.mono hB l⟩⟩
/-- read in this world, wherever it lies -/
abbrev ArW (w : World) (t : Tm) (a : Option Addr) (n c : Nat) : Prop := Ar w.heap.size w t a n c
abbrev TsW (w : World) (a : Option Addr) (n c : Nat) (l : List Tm) : Prop := IsT w.heap.size w a n c l
theorem ArW.b {w w' : World} {t : Tm} {a : Option Addr} {n c : Nat} (h : ArW w t a n c) (hb : Below w.heap.size w w') : ArW w' t a n c := Ar.mono hb.size t (Ar.bel hb t h)
theorem TsW.b {w w' : World} {a : Option Addr} {n c : Nat} {l : List Tm} (h : TsW w a n c l) (hb : Below w.heap.size w w') : TsW w' a n c l := (h.bel hb).mono hb.size
theorem TsW.nil (w : World) : TsW w none 0 0 [] := ⟨rfl, Nat.le_refl _, Nat.zero_le _, fun _ => rfl, fun h => absurd h (by omega)⟩
theorem ArW.args {w : World} {t : Tm} {a : Option Addr} {n c : Nat} (h : ArW w t a n c) : TsW w a n c (argsT t) := ar_isT.1 h
theorem IsT.at {B : Nat} {w : World} {a : Option Addr} {n c k : Nat} {l : List Tm} (h : IsT B w a n c l) (hk : k < n) :
    ∃ b o t a' n' c', a = some ⟨b, o, none⟩ ∧ b < B ∧ w.cell? ⟨b, o + k * 4, none⟩ = some (.int .i64 (opT t)) ∧ w.cell? ⟨b, o + k * 4 + 1, none⟩ = some (.string (nameT t)) ∧ w.cell? ⟨b, o + k * 4 + 1 + 1, none⟩ = some (.int .i64 (numT t)) ∧ w.cell? ⟨b, o + k * 4 + 1 + 1 + 1, none⟩ = some (.slice a' n' c') ∧ l[k]? = some t ∧ Ar B w t a' n' c' := by
  obtain ⟨b, o, ha, hlt, hr⟩ := h.2.2.2.2 (by omega)
  have hk2 : k < l.length := by rw [← h.1]; exact hk
  obtain ⟨a', n', c', h0, h1, h2, h3, h4⟩ := rw_at.1 hr k hk2
  exact ⟨b, o, l[k], a', n', c', ha, hlt, h0, h1, h2, h3, List.getElem?_eq_getElem _, h4⟩

/-! a term as a value; put into a block -/
def tmV (o : Int) (s : ByteArray) (z : Int) (a : Option Addr) (n c : Nat) : Value := .agg #[.int .i64 o, .string s, .int .i64 z, .slice a n c]
def TBox (w : World) (g : Nat) (o : Int) (s : ByteArray) (z : Int) (a : Option Addr) (n c : Nat) : Prop := Blk w g #[.int .i64 o, .string s, .int .i64 z, .slice a n c] 24
theorem TBox.four {w : World} {g : Nat} {o : Int} {s : ByteArray} {z : Int} {a : Option Addr} {n c : Nat} (h : TBox w g o s z a n c) :
    w.cell? ⟨g, 0, none⟩ = some (.int .i64 o) ∧ w.cell? ⟨g, 1, none⟩ = some (.string s) ∧ w.cell? ⟨g, 1 + 1, none⟩ = some (.int .i64 z) ∧ w.cell? ⟨g, 1 + 1 + 1, none⟩ = some (.slice a n c) := ⟨Blk.cell h 0, Blk.cell h 1, Blk.cell h 2, Blk.cell h 3⟩
theorem TBox.b {w w' : World} {g : Nat} {o : Int} {s : ByteArray} {z : Int} {a : Option Addr} {n c : Nat} (h : TBox w g o s z a n c) (hb : Below w.heap.size w w') : TBox w' g o s z a n c := Blk.below h hb
theorem TBox.new (w : World) (o : Int) (s : ByteArray) (z : Int) (a : Option Addr) (n c : Nat) : TBox (w.alloc (.cells #[.int .i64 o, .string s, .int .i64 z, .slice a n c] 24)) w.heap.size o s z a n c := Blk.new w _ _
theorem box1 (w : World) (o : Int) (s : ByteArray) (z : Int) (a : Option Addr) (n c : Nat) :
    ∃ W, w.alloc (.cells #[.int .i64 o, .string s, .int .i64 z, .slice a n c] 24) = W ∧ Below w.heap.size w W ∧ W.heap.size = w.heap.size + 1 ∧ TBox W w.heap.size o s z a n c :=
  ⟨_, rfl, bel_alloc (Below.refl _ _) _, by simp, TBox.new w o s z a n c⟩
theorem box2 (w : World) (o : Int) (s : ByteArray) (z : Int) (a : Option Addr) (n c : Nat) (o' : Int) (s' : ByteArray) (z' : Int) (a' : Option Addr) (n' c' : Nat) :
    ∃ W, (w.alloc (.cells #[.int .i64 o, .string s, .int .i64 z, .slice a n c] 24)).alloc (.cells #[.int .i64 o', .string s', .int .i64 z', .slice a' n' c'] 24) = W ∧ Below w.heap.size w W ∧ W.heap.size = w.heap.size + 2 ∧ TBox W w.heap.size o s z a n c ∧ TBox W (w.heap.size + 1) o' s' z' a' n' c' := by
  refine ⟨_, rfl, bel_alloc (bel_alloc (Below.refl _ _) _) _, by simp, Blk.alloc (TBox.new w o s z a n c) _, ?_⟩
  have := TBox.new (w.alloc (.cells #[.int .i64 o, .string s, .int .i64 z, .slice a n c] 24)) o' s' z' a' n' c'
  rwa [World.size_alloc] at this
theorem box3 (w : World) (o : Int) (s : ByteArray) (z : Int) (a : Option Addr) (n c : Nat) (o' : Int) (s' : ByteArray) (z' : Int) (a' : Option Addr) (n' c' : Nat) (o2 : Int) (s2 : ByteArray) (z2 : Int) (a2 : Option Addr) (n2 c2 : Nat) :
    ∃ W, ((w.alloc (.cells #[.int .i64 o, .string s, .int .i64 z, .slice a n c] 24)).alloc (.cells #[.int .i64 o', .string s', .int .i64 z', .slice a' n' c'] 24)).alloc (.cells #[.int .i64 o2, .string s2, .int .i64 z2, .slice a2 n2 c2] 24) = W ∧ Below w.heap.size w W ∧ W.heap.size = w.heap.size + 3 ∧ TBox W w.heap.size o s z a n c ∧ TBox W (w.heap.size + 1) o' s' z' a' n' c' ∧ TBox W (w.heap.size + 1 + 1) o2 s2 z2 a2 n2 c2 := by
  obtain ⟨W2, h2, hb, hs, t1, t2⟩ := box2 w o s z a n c o' s' z' a' n' c'
  rw [h2]
  refine ⟨_, rfl, bel_alloc hb _, by simp [hs], Blk.alloc t1 _, Blk.alloc t2 _, ?_⟩
  have := TBox.new W2 o2 s2 z2 a2 n2 c2
  rwa [hs] at this
theorem drop_t {t : Tm} {l : List Tm} {k : Nat} (h : l[k]? = some t) : l.drop k = t :: l.drop (k + 1) := by
  obtain ⟨hk, rfl⟩ := List.getElem?_eq_some_iff.1 h
  exact List.drop_eq_getElem_cons hk
end Go.Proofs.Ytelepojpnkoelaa.T
