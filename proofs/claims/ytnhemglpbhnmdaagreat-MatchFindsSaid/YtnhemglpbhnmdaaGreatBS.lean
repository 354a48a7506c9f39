/-
  What is proved: lists of pairs in memory: how a slice of pairs reads, what keeps it; a pair put into a block.
-/
import Derived.Test.YtnhemglpbhnmdaaGreatBL
import Derived.Test.YtnhemglpbhnmdaaGreatBC
namespace Go.Proofs.YtnhemglpbhnmdaaGreat.U
open Go.RowKit L T
set_option linter.unusedVariables false
set_option linter.unusedSimpArgs false

/-- a pair: a name, and the term in its place -/
structure Pr where
  nm : ByteArray
  t : Tm
/-- the five cells of a pair, and what they lead to -/
def AtU (B : Nat) (w : World) (b o : Nat) (p : Pr) (a : Option Addr) (n c : Nat) : Prop :=
  w.cell? ⟨b, o, none⟩ = some (.string p.nm) ∧ w.cell? ⟨b, o + 1, none⟩ = some (.int .i64 (opT p.t)) ∧ w.cell? ⟨b, o + 1 + 1, none⟩ = some (.string (nameT p.t)) ∧ w.cell? ⟨b, o + 1 + 1 + 1, none⟩ = some (.int .i64 (numT p.t)) ∧ w.cell? ⟨b, o + 1 + 1 + 1 + 1, none⟩ = some (.slice a n c) ∧ Ar B w p.t a n c
/-- a slice that reads as these pairs -/
def IsU (B : Nat) (w : World) (a : Option Addr) (n c : Nat) (l : List Pr) : Prop :=
  n = l.length ∧ n ≤ c ∧ c ≤ maxLen ∧ (a = none → c = 0) ∧ (0 < n → ∃ b o, a = some ⟨b, o, none⟩ ∧ b < B ∧ ∀ i p, l[i]? = some p → ∃ a' n' c', AtU B w b (o + i * 5) p a' n' c')
theorem AtU.bel {B : Nat} {w w' : World} (hb : Below B w w') {b o : Nat} (hl : b < B) {p : Pr} {a : Option Addr} {n c : Nat} (h : AtU B w b o p a n c) : AtU B w' b o p a n c :=
  ⟨(hb.cell (p := ⟨b, _, none⟩) hl).trans h.1, (hb.cell (p := ⟨b, _, none⟩) hl).trans h.2.1, (hb.cell (p := ⟨b, _, none⟩) hl).trans h.2.2.1, (hb.cell (p := ⟨b, _, none⟩) hl).trans h.2.2.2.1, (hb.cell (p := ⟨b, _, none⟩) hl).trans h.2.2.2.2.1, Ar.bel hb _ h.2.2.2.2.2⟩
theorem AtU.mono {B B' : Nat} {w : World} (hB : B ≤ B') {b o : Nat} {p : Pr} {a : Option Addr} {n c : Nat} (h : AtU B w b o p a n c) : AtU B' w b o p a n c :=
  ⟨h.1, h.2.1, h.2.2.1, h.2.2.2.1, h.2.2.2.2.1, Ar.mono hB _ h.2.2.2.2.2⟩
theorem IsU.bel {B : Nat} {w w' : World} {a : Option Addr} {n c : Nat} {l : List Pr} (h : IsU B w a n c l) (hb : Below B w w') : IsU B w' a n c l :=
  ⟨h.1, h.2.1, h.2.2.1, h.2.2.2.1, fun hn => by
    obtain ⟨b, o, ha, hlt, hr⟩ := h.2.2.2.2 hn
    exact ⟨b, o, ha, hlt, fun i p hi => by obtain ⟨a', n', c', q⟩ := hr i p hi; exact ⟨a', n', c', q.bel hb hlt⟩⟩⟩
theorem IsU.mono {B B' : Nat} {w : World} {a : Option Addr} {n c : Nat} {l : List Pr} (h : IsU B w a n c l) (hB : B ≤ B') : IsU B' w a n c l :=
  ⟨h.1, h.2.1, h.2.2.1, h.2.2.2.1, fun hn => by
    obtain ⟨b, o, ha, hlt, hr⟩ := h.2.2.2.2 hn
    exact ⟨b, o, ha, by omega, fun i p hi => by obtain ⟨a', n', c', q⟩ := hr i p hi; exact ⟨a', n', c', q.mono hB⟩⟩⟩
abbrev UsW (w : World) (a : Option Addr) (n c : Nat) (l : List Pr) : Prop := IsU w.heap.size w a n c l
theorem UsW.b {w w' : World} {a : Option Addr} {n c : Nat} {l : List Pr} (h : UsW w a n c l) (hb : Below w.heap.size w w') : UsW w' a n c l := (h.bel hb).mono hb.size
theorem UsW.nil (w : World) : UsW w none 0 0 [] := ⟨rfl, Nat.le_refl _, Nat.zero_le _, fun _ => rfl, fun h => absurd h (by omega)⟩
theorem IsU.at {B : Nat} {w : World} {a : Option Addr} {n c k : Nat} {l : List Pr} (h : IsU B w a n c l) (hk : k < n) :
    ∃ b o p a' n' c', a = some ⟨b, o, none⟩ ∧ b < B ∧ w.cell? ⟨b, o + k * 5, none⟩ = some (.string p.nm) ∧ w.cell? ⟨b, o + k * 5 + 1, none⟩ = some (.int .i64 (opT p.t)) ∧ w.cell? ⟨b, o + k * 5 + 1 + 1, none⟩ = some (.string (nameT p.t)) ∧ w.cell? ⟨b, o + k * 5 + 1 + 1 + 1, none⟩ = some (.int .i64 (numT p.t)) ∧ w.cell? ⟨b, o + k * 5 + 1 + 1 + 1 + 1, none⟩ = some (.slice a' n' c') ∧ l[k]? = some p ∧ Ar B w p.t a' n' c' := by
  obtain ⟨b, o, ha, hlt, hr⟩ := h.2.2.2.2 (by omega)
  have hk2 : k < l.length := by rw [← h.1]; exact hk
  obtain ⟨a', n', c', h0, h1, h2, h3, h4, h5⟩ := hr k l[k] (List.getElem?_eq_getElem hk2)
  exact ⟨b, o, l[k], a', n', c', ha, hlt, h0, h1, h2, h3, h4, List.getElem?_eq_getElem _, h5⟩
theorem IsU.lt63 {B : Nat} {w : World} {a : Option Addr} {n c : Nat} {l : List Pr} (h : IsU B w a n c l) : n ≤ 9223372036854775807 := by
  have h1 := h.2.1; have h2 := h.2.2.1; unfold maxLen at h2; omega
theorem drop_u {p : Pr} {l : List Pr} {k : Nat} (h : l[k]? = some p) : l.drop k = p :: l.drop (k + 1) := by
  obtain ⟨hk, rfl⟩ := List.getElem?_eq_some_iff.1 h
  exact List.drop_eq_getElem_cons hk

/-! a pair put into a block -/
def UBox (w : World) (g : Nat) (q : ByteArray) (o : Int) (s : ByteArray) (z : Int) (a : Option Addr) (n c : Nat) : Prop := Blk w g #[.string q, .int .i64 o, .string s, .int .i64 z, .slice a n c] 33
theorem UBox.five {w : World} {g : Nat} {q : ByteArray} {o : Int} {s : ByteArray} {z : Int} {a : Option Addr} {n c : Nat} (h : UBox w g q o s z a n c) :
    w.cell? ⟨g, 0, none⟩ = some (.string q) ∧ w.cell? ⟨g, 1, none⟩ = some (.int .i64 o) ∧ w.cell? ⟨g, 1 + 1, none⟩ = some (.string s) ∧ w.cell? ⟨g, 1 + 1 + 1, none⟩ = some (.int .i64 z) ∧ w.cell? ⟨g, 1 + 1 + 1 + 1, none⟩ = some (.slice a n c) := ⟨Blk.cell h 0, Blk.cell h 1, Blk.cell h 2, Blk.cell h 3, Blk.cell h 4⟩
theorem UBox.b {w w' : World} {g : Nat} {q : ByteArray} {o : Int} {s : ByteArray} {z : Int} {a : Option Addr} {n c : Nat} (h : UBox w g q o s z a n c) (hb : Below w.heap.size w w') : UBox w' g q o s z a n c := Blk.below h hb
theorem ubox1 (w : World) (q : ByteArray) (o : Int) (s : ByteArray) (z : Int) (a : Option Addr) (n c : Nat) :
    ∃ W, w.alloc (.cells #[.string q, .int .i64 o, .string s, .int .i64 z, .slice a n c] 33) = W ∧ Below w.heap.size w W ∧ W.heap.size = w.heap.size + 1 ∧ UBox W w.heap.size q o s z a n c :=
  ⟨_, rfl, bel_alloc (Below.refl _ _) _, by simp, Blk.new w _ _⟩
theorem ubox2 (w : World) (q : ByteArray) (o : Int) (s : ByteArray) (z : Int) (a : Option Addr) (n c : Nat) (q' : ByteArray) (o' : Int) (s' : ByteArray) (z' : Int) (a' : Option Addr) (n' c' : Nat) :
    ∃ W, (w.alloc (.cells #[.string q, .int .i64 o, .string s, .int .i64 z, .slice a n c] 33)).alloc (.cells #[.string q', .int .i64 o', .string s', .int .i64 z', .slice a' n' c'] 33) = W ∧ Below w.heap.size w W ∧ W.heap.size = w.heap.size + 2 ∧ UBox W w.heap.size q o s z a n c ∧ UBox W (w.heap.size + 1) q' o' s' z' a' n' c' := by
  obtain ⟨W1, h1, hb, hs, u⟩ := ubox1 w q o s z a n c
  rw [h1]
  refine ⟨_, rfl, bel_alloc hb _, by simp [hs], Blk.alloc u _, ?_⟩
  have := Blk.new W1 #[.string q', .int .i64 o', .string s', .int .i64 z', .slice a' n' c'] 33
  rwa [hs] at this
/-- a pair's value and what it reads as -/
def prV (q : ByteArray) (t : Tm) (a : Option Addr) (n c : Nat) : Value := .agg #[.string q, .int .i64 (opT t), .string (nameT t), .int .i64 (numT t), .slice a n c]
/-- are two pairs, two lists of pairs, the same? -/
def eqP (p q : Pr) : Bool := (p.nm.toList == q.nm.toList) && eqT p.t q.t
def eqPs : List Pr → List Pr → Bool
  | [], [] => true
  | p :: l, q :: m => eqP p q && eqPs l m
  | _, _ => false
theorem eqPs_len : ∀ {l m : List Pr}, l.length ≠ m.length → eqPs l m = false
  | [], [], h => absurd rfl h
  | [], _ :: _, _ => rfl
  | _ :: _, [], _ => rfl
  | p :: l, q :: m, h => by
    rw [eqPs, eqPs_len (l := l) (m := m) (by simpa using h), Bool.and_false]
end Go.Proofs.YtnhemglpbhnmdaaGreat.U
