/-
  What is proved: claims in memory: how a slice of claims reads as a list of trees, what keeps it; a claim put into a block; rows of claims of the call's own; claims in new memory.
-/
import Derived.Test.YtacncbkcnhlpcaaZClmA
import Derived.Test.YtacncbkcnhlpcaaZLibF
import Derived.Test.YtacncbkcnhlpcaaBT
import Derived.Laws.MakeOwn
namespace Go.Proofs.Ytacncbkcnhlpcaa.C
open Go.RowKit L T
set_option linter.unusedVariables false
set_option linter.unusedSimpArgs false

/-- a slice's three words -/
structure SS where
  a : Option Addr
  n : Nat
  c : Nat
def SS.nil : SS := ⟨none, 0, 0⟩
abbrev IsK (B : Nat) (w : World) (k : SS) (l : List Tm) : Prop := IsT B w k.a k.n k.c l
mutual
def ArC (B : Nat) (w : World) : Cl → SS → Option Addr → Nat → Nat → Prop
  | .mk _ _ _ ts l, k, a, n, c => IsK B w k ts ∧ n = l.length ∧ n ≤ c ∧ c ≤ maxLen ∧ (a = none → c = 0) ∧ (0 < n → ∃ b o, a = some ⟨b, o, none⟩ ∧ b < B ∧ RwC B w b o l)
def RwC (B : Nat) (w : World) (b : Nat) : Nat → List Cl → Prop
  | _, [] => True
  | o, t :: l => (∃ k a n c, w.cell? ⟨b, o, none⟩ = some (.int .i64 (opC t)) ∧ w.cell? ⟨b, o + 1, none⟩ = some (.string (nmC t)) ∧ w.cell? ⟨b, o + 1 + 1, none⟩ = some (.string (soC t)) ∧ w.cell? ⟨b, o + 1 + 1 + 1, none⟩ = some (.slice k.a k.n k.c) ∧ w.cell? ⟨b, o + 1 + 1 + 1 + 1, none⟩ = some (.slice a n c) ∧ ArC B w t k a n c) ∧ RwC B w b (o + 5) l
end
/-- a slice that reads as these claims -/
def IsC (B : Nat) (w : World) (a : Option Addr) (n c : Nat) (l : List Cl) : Prop :=
  n = l.length ∧ n ≤ c ∧ c ≤ maxLen ∧ (a = none → c = 0) ∧ (0 < n → ∃ b o, a = some ⟨b, o, none⟩ ∧ b < B ∧ RwC B w b o l)
/-- the cells of a claim, and what they lead to -/
def AtC (B : Nat) (w : World) (b o : Nat) (t : Cl) (k : SS) (a : Option Addr) (n c : Nat) : Prop :=
  w.cell? ⟨b, o, none⟩ = some (.int .i64 (opC t)) ∧ w.cell? ⟨b, o + 1, none⟩ = some (.string (nmC t)) ∧ w.cell? ⟨b, o + 1 + 1, none⟩ = some (.string (soC t)) ∧ w.cell? ⟨b, o + 1 + 1 + 1, none⟩ = some (.slice k.a k.n k.c) ∧ w.cell? ⟨b, o + 1 + 1 + 1 + 1, none⟩ = some (.slice a n c) ∧ ArC B w t k a n c
theorem ar_isC {B : Nat} {w : World} {t : Cl} {k : SS} {a : Option Addr} {n c : Nat} : ArC B w t k a n c ↔ IsK B w k (tsC t) ∧ IsC B w a n c (subC t) := by
  cases t; rw [ArC]; rfl
theorem rwc_cons {B : Nat} {w : World} {b o : Nat} {t : Cl} {l : List Cl} : RwC B w b o (t :: l) ↔ (∃ k a n c, AtC B w b o t k a n c) ∧ RwC B w b (o + 5) l := by
  rw [RwC]; rfl
theorem rwc_at {B : Nat} {w : World} {b : Nat} : ∀ {l : List Cl} {o : Nat}, RwC B w b o l ↔ ∀ i (h : i < l.length), ∃ k a n c, AtC B w b (o + i * 5) l[i] k a n c
  | [], o => by rw [RwC]; simp
  | t :: l, o => by
    rw [rwc_cons, rwc_at]
    constructor
    · rintro ⟨h0, h1⟩ i hi
      cases i with
      | zero => simpa using h0
      | succ i =>
        have := h1 i (by simpa using hi)
        rw [show o + (i + 1) * 5 = o + 5 + i * 5 by omega]
        exact this
    · intro h
      refine ⟨by have := h 0 (by simp); rw [Nat.zero_mul, Nat.add_zero] at this; exact this, fun i hi => ?_⟩
      have := h (i + 1) (by simpa using hi)
      rw [show o + (i + 1) * 5 = o + 5 + i * 5 by omega] at this
      exact this
mutual
theorem ArC.bel {B : Nat} {w w' : World} (hb : Below B w w') : ∀ (t : Cl) {k : SS} {a : Option Addr} {n c : Nat}, ArC B w t k a n c → ArC B w' t k a n c
  | .mk o s z ts l, k, a, n, c, h => by
    rw [ArC] at h ⊢
    refine ⟨h.1.bel hb, h.2.1, h.2.2.1, h.2.2.2.1, h.2.2.2.2.1, fun hn => ?_⟩
    obtain ⟨b, o, ha, hlt, hr⟩ := h.2.2.2.2.2 hn
    exact ⟨b, o, ha, hlt, RwC.bel hb hlt l hr⟩
theorem RwC.bel {B : Nat} {w w' : World} (hb : Below B w w') {b : Nat} (hlt : b < B) : ∀ (l : List Cl) {o : Nat}, RwC B w b o l → RwC B w' b o l
  | [], o, h => by rw [RwC]; trivial
  | t :: l, o, h => by
    rw [RwC] at h ⊢
    obtain ⟨⟨k, a, n, c, h0, h1, h2, h3, h4, h5⟩, h6⟩ := h
    exact ⟨⟨k, a, n, c, (hb.cell (p := ⟨b, _, none⟩) hlt).trans h0, (hb.cell (p := ⟨b, _, none⟩) hlt).trans h1, (hb.cell (p := ⟨b, _, none⟩) hlt).trans h2, (hb.cell (p := ⟨b, _, none⟩) hlt).trans h3, (hb.cell (p := ⟨b, _, none⟩) hlt).trans h4, ArC.bel hb t h5⟩, RwC.bel hb hlt l h6⟩
end
mutual
theorem ArC.mono {B B' : Nat} {w : World} (hB : B ≤ B') : ∀ (t : Cl) {k : SS} {a : Option Addr} {n c : Nat}, ArC B w t k a n c → ArC B' w t k a n c
  | .mk o s z ts l, k, a, n, c, h => by
    rw [ArC] at h ⊢
    refine ⟨h.1.mono hB, h.2.1, h.2.2.1, h.2.2.2.1, h.2.2.2.2.1, fun hn => ?_⟩
    obtain ⟨b, o, ha, hlt, hr⟩ := h.2.2.2.2.2 hn
    exact ⟨b, o, ha, by omega, RwC.mono hB l hr⟩
theorem RwC.mono {B B' : Nat} {w : World} (hB : B ≤ B') {b : Nat} : ∀ (l : List Cl) {o : Nat}, RwC B w b o l → RwC B' w b o l
  | [], o, h => by rw [RwC]; trivial
  | t :: l, o, h => by
    rw [RwC] at h ⊢
    obtain ⟨⟨k, a, n, c, h0, h1, h2, h3, h4, h5⟩, h6⟩ := h
    exact ⟨⟨k, a, n, c, h0, h1, h2, h3, h4, ArC.mono hB t h5⟩, RwC.mono hB l h6⟩
end
theorem IsC.bel {B : Nat} {w w' : World} {a : Option Addr} {n c : Nat} {l : List Cl} (h : IsC B w a n c l) (hb : Below B w w') : IsC B w' a n c l :=
  ⟨h.1, h.2.1, h.2.2.1, h.2.2.2.1, fun hn => by
    obtain ⟨b, o, ha, hlt, hr⟩ := h.2.2.2.2 hn
    exact ⟨b, o, ha, hlt, hr.bel hb hlt l⟩⟩
theorem IsC.mono {B B' : Nat} {w : World} {a : Option Addr} {n c : Nat} {l : List Cl} (h : IsC B w a n c l) (hB : B ≤ B') : IsC B' w a n c l :=
  ⟨h.1, h.2.1, h.2.2.1, h.2.2.2.1, fun hn => by
    obtain ⟨b, o, ha, hlt, hr⟩ := h.2.2.2.2 hn
    exact ⟨b, o, ha, by omega, hr.mono hB l⟩⟩
abbrev ArWC (w : World) (t : Cl) (k : SS) (a : Option Addr) (n c : Nat) : Prop := ArC w.heap.size w t k a n c
abbrev CsW (w : World) (a : Option Addr) (n c : Nat) (l : List Cl) : Prop := IsC w.heap.size w a n c l
abbrev KsW (w : World) (k : SS) (l : List Tm) : Prop := IsT w.heap.size w k.a k.n k.c l
theorem ArWC.b {w w' : World} {t : Cl} {k : SS} {a : Option Addr} {n c : Nat} (h : ArWC w t k a n c) (hb : Below w.heap.size w w') : ArWC w' t k a n c := ArC.mono hb.size t (ArC.bel hb t h)
theorem CsW.b {w w' : World} {a : Option Addr} {n c : Nat} {l : List Cl} (h : CsW w a n c l) (hb : Below w.heap.size w w') : CsW w' a n c l := (h.bel hb).mono hb.size
theorem ArWC.subs {w : World} {t : Cl} {k : SS} {a : Option Addr} {n c : Nat} (h : ArWC w t k a n c) : CsW w a n c (subC t) := (ar_isC.1 h).2
theorem ArWC.terms {w : World} {t : Cl} {k : SS} {a : Option Addr} {n c : Nat} (h : ArWC w t k a n c) : KsW w k (tsC t) := (ar_isC.1 h).1
theorem IsC.at {B : Nat} {w : World} {a : Option Addr} {n c i : Nat} {l : List Cl} (h : IsC B w a n c l) (hi : i < n) :
    ∃ b o t k a' n' c', a = some ⟨b, o, none⟩ ∧ b < B ∧ w.cell? ⟨b, o + i * 5, none⟩ = some (.int .i64 (opC t)) ∧ w.cell? ⟨b, o + i * 5 + 1, none⟩ = some (.string (nmC t)) ∧ w.cell? ⟨b, o + i * 5 + 1 + 1, none⟩ = some (.string (soC t)) ∧ w.cell? ⟨b, o + i * 5 + 1 + 1 + 1, none⟩ = some (.slice k.a k.n k.c) ∧ w.cell? ⟨b, o + i * 5 + 1 + 1 + 1 + 1, none⟩ = some (.slice a' n' c') ∧ l[i]? = some t ∧ ArC B w t k a' n' c' := by
  obtain ⟨b, o, ha, hlt, hr⟩ := h.2.2.2.2 (by omega)
  have hi2 : i < l.length := by rw [← h.1]; exact hi
  obtain ⟨k, a', n', c', h0, h1, h2, h3, h4, h5⟩ := rwc_at.1 hr i hi2
  exact ⟨b, o, l[i], k, a', n', c', ha, hlt, h0, h1, h2, h3, h4, List.getElem?_eq_getElem _, h5⟩
theorem drop_c {t : Cl} {l : List Cl} {k : Nat} (h : l[k]? = some t) : l.drop k = t :: l.drop (k + 1) := by
  obtain ⟨hk, rfl⟩ := List.getElem?_eq_some_iff.1 h
  exact List.drop_eq_getElem_cons hk
theorem take_c {t : Cl} {l : List Cl} {k : Nat} (h : l[k]? = some t) : l.take (k + 1) = l.take k ++ [t] := by
  rw [List.take_add_one, h]; rfl

/-! a claim put into a block -/
def CBox (w : World) (g : Nat) (o : Int) (s z : ByteArray) (k : SS) (a : Option Addr) (n c : Nat) : Prop := Blk w g #[.int .i64 o, .string s, .string z, .slice k.a k.n k.c, .slice a n c] 46
theorem CBox.five {w : World} {g : Nat} {o : Int} {s z : ByteArray} {k : SS} {a : Option Addr} {n c : Nat} (h : CBox w g o s z k a n c) :
    w.cell? ⟨g, 0, none⟩ = some (.int .i64 o) ∧ w.cell? ⟨g, 1, none⟩ = some (.string s) ∧ w.cell? ⟨g, 1 + 1, none⟩ = some (.string z) ∧ w.cell? ⟨g, 1 + 1 + 1, none⟩ = some (.slice k.a k.n k.c) ∧ w.cell? ⟨g, 1 + 1 + 1 + 1, none⟩ = some (.slice a n c) := ⟨Blk.cell h 0, Blk.cell h 1, Blk.cell h 2, Blk.cell h 3, Blk.cell h 4⟩
theorem CBox.free {w : World} {g : Nat} {o : Int} {s z : ByteArray} {k : SS} {a : Option Addr} {n c : Nat} (h : CBox w g o s z k a n c) :
    w.frozen? ⟨g, 0, none⟩ = false ∧ w.frozen? ⟨g, 1, none⟩ = false ∧ w.frozen? ⟨g, 2, none⟩ = false ∧ w.frozen? ⟨g, 3, none⟩ = false ∧ w.frozen? ⟨g, 4, none⟩ = false := ⟨Blk.free h 0, Blk.free h 1, Blk.free h 2, Blk.free h 3, Blk.free h 4⟩
theorem CBox.b {w w' : World} {g : Nat} {o : Int} {s z : ByteArray} {k : SS} {a : Option Addr} {n c : Nat} (h : CBox w g o s z k a n c) (hb : Below w.heap.size w w') : CBox w' g o s z k a n c := Blk.below h hb
theorem CBox.new (w : World) (o : Int) (s z : ByteArray) (k : SS) (a : Option Addr) (n c : Nat) : CBox (w.alloc (.cells #[.int .i64 o, .string s, .string z, .slice k.a k.n k.c, .slice a n c] 46)) w.heap.size o s z k a n c := Blk.new w _ _
theorem CBox.far {w : World} {g x : Nat} {o : Int} {s z : ByteArray} {k : SS} {a : Option Addr} {n c : Nat} (h : CBox w g o s z k a n c) (hne : x ≠ g) (j : Nat) (v : Value) : CBox (w.setCell ⟨x, j, none⟩ v) g o s z k a n c := Blk.far h hne j v
/-- all five cells of a block stored -/
def put5 (w : World) (g : Nat) (v0 v1 v2 v3 v4 : Value) : World := ((((w.setCell ⟨g, 0, none⟩ v0).setCell ⟨g, 1, none⟩ v1).setCell ⟨g, 2, none⟩ v2).setCell ⟨g, 3, none⟩ v3).setCell ⟨g, 4, none⟩ v4
theorem CBox.put {w : World} {g : Nat} {o : Int} {s z : ByteArray} {k : SS} {a : Option Addr} {n c : Nat} (h : CBox w g o s z k a n c) (o' : Int) (s' z' : ByteArray) (k' : SS) (a' : Option Addr) (n' c' : Nat) : CBox (put5 w g (.int .i64 o') (.string s') (.string z') (.slice k'.a k'.n k'.c) (.slice a' n' c')) g o' s' z' k' a' n' c' := by
  have := Blk.set (Blk.set (Blk.set (Blk.set (Blk.set h 0 (.int .i64 o')) 1 (.string s')) 2 (.string z')) 3 (.slice k'.a k'.n k'.c)) 4 (.slice a' n' c')
  simpa [put5, CBox] using this
theorem put5_size (w : World) (g : Nat) (v0 v1 v2 v3 v4 : Value) : (put5 w g v0 v1 v2 v3 v4).heap.size = w.heap.size := by simp [put5, World.setCell]
theorem put5_other (w : World) (g i : Nat) (v0 v1 v2 v3 v4 : Value) (hne : i ≠ g) : (put5 w g v0 v1 v2 v3 v4).heap[i]? = w.heap[i]? := by
  unfold put5
  rw [heap_setCell_other _ ⟨g, _, none⟩ i _ hne, heap_setCell_other _ ⟨g, _, none⟩ i _ hne, heap_setCell_other _ ⟨g, _, none⟩ i _ hne, heap_setCell_other _ ⟨g, _, none⟩ i _ hne, heap_setCell_other _ ⟨g, _, none⟩ i _ hne]
theorem put5_below {B g : Nat} {w0 w : World} (hb : Below B w0 w) (hg : B ≤ g) (v0 v1 v2 v3 v4 : Value) : Below B w0 (put5 w g v0 v1 v2 v3 v4) :=
  below_set (below_set (below_set (below_set (below_set hb hg _ _) hg _ _) hg _ _) hg _ _) hg _ _
theorem cbox1 (w : World) (o : Int) (s z : ByteArray) (k : SS) (a : Option Addr) (n c : Nat) :
    ∃ W, w.alloc (.cells #[.int .i64 o, .string s, .string z, .slice k.a k.n k.c, .slice a n c] 46) = W ∧ Below w.heap.size w W ∧ W.heap.size = w.heap.size + 1 ∧ CBox W w.heap.size o s z k a n c :=
  ⟨_, rfl, bel_alloc (Below.refl _ _) _, by simp, CBox.new w o s z k a n c⟩
theorem cbox2 (w : World) (o : Int) (s z : ByteArray) (k : SS) (a : Option Addr) (n c : Nat) (o' : Int) (s' z' : ByteArray) (k' : SS) (a' : Option Addr) (n' c' : Nat) :
    ∃ W, (w.alloc (.cells #[.int .i64 o, .string s, .string z, .slice k.a k.n k.c, .slice a n c] 46)).alloc (.cells #[.int .i64 o', .string s', .string z', .slice k'.a k'.n k'.c, .slice a' n' c'] 46) = W ∧ Below w.heap.size w W ∧ W.heap.size = w.heap.size + 2 ∧ CBox W w.heap.size o s z k a n c ∧ CBox W (w.heap.size + 1) o' s' z' k' a' n' c' := by
  refine ⟨_, rfl, bel_alloc (bel_alloc (Below.refl _ _) _) _, by simp, Blk.alloc (CBox.new w o s z k a n c) _, ?_⟩
  have := CBox.new (w.alloc (.cells #[.int .i64 o, .string s, .string z, .slice k.a k.n k.c, .slice a n c] 46)) o' s' z' k' a' n' c'
  rwa [World.size_alloc] at this

/-! rows of the call's own -/
/-- a claim's five cells -/
structure Hc where
  op : Int
  nm : ByteArray
  so : ByteArray
  k : SS
  a : Option Addr
  n : Nat
  c : Nat
def Hc.cells (h : Hc) : List Value := [.int .i64 h.op, .string h.nm, .string h.so, .slice h.k.a h.k.n h.k.c, .slice h.a h.n h.c]
def Hc.val (h : Hc) : Value := .agg #[.int .i64 h.op, .string h.nm, .string h.so, .slice h.k.a h.k.n h.k.c, .slice h.a h.n h.c]
def Hc.zero : Hc := ⟨0, ⟨#[]⟩, ⟨#[]⟩, SS.nil, none, 0, 0⟩
def hcOf (t : Cl) (k : SS) (a : Option Addr) (n c : Nat) : Hc := ⟨opC t, nmC t, soC t, k, a, n, c⟩
def flatC (hs : List Hc) : List Value := hs.flatMap Hc.cells
theorem flatC_len (hs : List Hc) : (flatC hs).length = hs.length * 5 := by
  unfold flatC
  induction hs with
  | nil => rfl
  | cons h l ih => rw [List.flatMap_cons, List.length_append, ih, List.length_cons]; simp [Hc.cells]; omega
theorem flatC_app (l m : List Hc) : flatC (l ++ m) = flatC l ++ flatC m := by unfold flatC; rw [List.flatMap_append]
theorem flatC_get : ∀ (hs : List Hc) (k j : Nat) (hk : k < hs.length), j < 5 → (flatC hs)[k * 5 + j]? = (hs[k].cells)[j]?
  | [], k, j, hk, _ => absurd hk (by simp)
  | h :: l, 0, j, hk, hj => by
    unfold flatC
    rw [List.flatMap_cons, List.getElem?_append_left (by simp [Hc.cells]; omega)]
    simp
  | h :: l, k + 1, j, hk, hj => by
    have ih := flatC_get l k j (by simpa using hk) hj
    unfold flatC at ih ⊢
    rw [List.flatMap_cons, List.getElem?_append_right (by simp [Hc.cells]; omega)]
    have e : (k + 1) * 5 + j - h.cells.length = k * 5 + j := by simp [Hc.cells]; omega
    rw [e, ih]; simp
theorem flatC_ext {hs : List Hc} {cs : List Value} (hl : hs.length * 5 ≤ cs.length) (h : ∀ k (hk : k < hs.length) j, j < 5 → cs[k * 5 + j]? = (hs[k].cells)[j]?) : cs.take (hs.length * 5) = flatC hs := by
  refine List.ext_getElem? fun i => ?_
  by_cases hi : i < hs.length * 5
  · rw [List.getElem?_take_of_lt hi]
    have hk : i / 5 < hs.length := by omega
    have := h (i / 5) hk (i % 5) (by omega)
    rw [show i / 5 * 5 + i % 5 = i by omega] at this
    rw [this, ← flatC_get hs (i / 5) (i % 5) hk (by omega), show i / 5 * 5 + i % 5 = i by omega]
  · rw [List.getElem?_eq_none (by rw [List.length_take]; omega), List.getElem?_eq_none (by rw [flatC_len]; omega)]
theorem hc_one (hs : List Hc) : ∀ u ∈ flatC hs, u.oneCell' = true := fun u hu => by
  unfold flatC at hu
  obtain ⟨h, _, hu⟩ := List.mem_flatMap.1 hu
  simp [Hc.cells] at hu
  rcases hu with rfl | rfl | rfl | rfl | rfl <;> rfl
theorem claimI : (Try.prog.info? 46).map (fun i => (i.zero, i.size, i.bytes)) = some (some (.agg #[.int .i64 0, .string ⟨#[]⟩, .string ⟨#[]⟩, .slice none 0 0, .slice none 0 0]), 5, 88) := by kernel_rfl
/-- a row of the call's own that holds these claims -/
def OwnC (w : World) (base : Nat) (v : Value) (hs : List Hc) : Prop := w.ownsRow base 46 5 v hs.length (flatC hs)
theorem OwnC.nil (w : World) (base : Nat) : OwnC w base (.slice none 0 0) [] := World.ownsRow_nil _ _ _ _
theorem OwnC.below {w w' : World} {base : Nat} {v : Value} {hs : List Hc} (h : OwnC w base v hs) (hb : Below w.heap.size w w') : OwnC w' base v hs := by
  refine ⟨h.1, ?_⟩
  rcases h.2 with hn | ⟨g, cap, cur, rfl, h1, hg, rest⟩
  · exact .inl hn
  · exact .inr ⟨g, cap, cur, rfl, h1, by rw [hb.block g (Array.getElem?_eq_some_iff.1 hg).1]; exact hg, rest⟩
theorem OwnC.at {w : World} {base g n c : Nat} {hs : List Hc} (h : OwnC w base (.slice (some ⟨g, 0, none⟩) n c) hs) {k : Nat} (hk : k < hs.length) :
    w.cell? ⟨g, k * 5, none⟩ = some (.int .i64 hs[k].op) ∧ w.cell? ⟨g, k * 5 + 1, none⟩ = some (.string hs[k].nm) ∧ w.cell? ⟨g, k * 5 + 1 + 1, none⟩ = some (.string hs[k].so) ∧ w.cell? ⟨g, k * 5 + 1 + 1 + 1, none⟩ = some (.slice hs[k].k.a hs[k].k.n hs[k].k.c) ∧ w.cell? ⟨g, k * 5 + 1 + 1 + 1 + 1, none⟩ = some (.slice hs[k].a hs[k].n hs[k].c) := by
  rcases h.2 with ⟨hv, _⟩ | ⟨g', cap, cur, hv, hb, hg, hnc, hcm, hcs, ht⟩
  · cases hv
  · injection hv with h1 h2 h3
    injection h1 with h1
    injection h1 with h1
    subst h1
    have key : ∀ j, j < 5 → w.cell? ⟨g, k * 5 + j, none⟩ = (hs[k].cells)[j]? := fun j hj => by
      rw [cell_of_row w g _ _ _ _ hg, ← flatC_get hs k j hk hj, ← ht, List.getElem?_take_of_lt (by omega), Array.getElem?_toList]
    exact ⟨key 0 (by omega), key 1 (by omega), key 2 (by omega), key 3 (by omega), key 4 (by omega)⟩
theorem OwnC.slice {w : World} {base : Nat} {v : Value} {hs : List Hc} (h : OwnC w base v hs) : ∃ A c, v = .slice A hs.length c ∧ hs.length ≤ c ∧ c ≤ maxLen ∧ (A = none → c = 0) ∧ (0 < hs.length → ∃ g, A = some ⟨g, 0, none⟩ ∧ base ≤ g ∧ g < w.heap.size) := by
  rcases h.2 with ⟨rfl, hn⟩ | ⟨g, cap, cur, rfl, hb, hg, hnc, hcm, hcs, ht⟩
  · exact ⟨none, 0, by rw [hn], by omega, Nat.zero_le _, fun _ => rfl, fun h => absurd h (by omega)⟩
  · exact ⟨_, _, rfl, hnc, hcm, (fun h => by cases h), fun _ => ⟨g, rfl, hb, (Array.getElem?_eq_some_iff.1 hg).1⟩⟩
theorem OwnC.isC {w : World} {base B : Nat} {A : Option Addr} {n c : Nat} {hs : List Hc} {l : List Cl} (h : OwnC w base (.slice A n c) hs) (hB : w.heap.size ≤ B) (hl : l.length = hs.length)
    (ha : ∀ k (hk : k < l.length) (hk2 : k < hs.length), hs[k].op = opC l[k] ∧ hs[k].nm = nmC l[k] ∧ hs[k].so = soC l[k] ∧ ArC B w l[k] hs[k].k hs[k].a hs[k].n hs[k].c) : IsC B w A n c l := by
  obtain ⟨A', c', hv, h1, h2, h3, h4⟩ := h.slice
  injection hv with e1 e2 e3
  subst e1 e2 e3
  refine ⟨hl.symm, h1, h2, h3, fun hn => ?_⟩
  obtain ⟨g, rfl, hb, hlt⟩ := h4 hn
  refine ⟨g, 0, rfl, by omega, rwc_at.2 fun k hk => ?_⟩
  have hk2 : k < hs.length := by omega
  obtain ⟨c0, c1, c2, c3, c4⟩ := h.at hk2
  obtain ⟨e1, e2, e3, e4⟩ := ha k hk hk2
  rw [Nat.zero_add]
  exact ⟨_, _, _, _, by rw [← e1]; exact c0, by rw [← e2]; exact c1, by rw [← e3]; exact c2, c3, c4, e4⟩
end Go.Proofs.Ytacncbkcnhlpcaa.C
