/-
  What is proved: basics: endings, worlds that grow, texts as bytes, slices read as lists of texts, rows of the call's own. No function of the program is named.
  What is proved: blocks of the call's own, known whole; what a store into one leaves of what is read elsewhere.
  What is proved: append of a list of texts to a row of the call's own, for the walk.
  What is proved: stable orders of places, merges of two sorted rows, rotations by swaps (plain mathematics, for the library's stable sort).
-/
import Derived.Test.YthchjceibpcgbaaGreatDoorProg
import Derived.WalkKit
import Derived.WalkSpells
import Derived.WalkLawsBesides
import Derived.Laws.ResultCell
import Derived.Deep.QuietTactic
import Derived.BigQuiet
import Derived.LoopTactic
import Derived.Outline
import Derived.Lib.Hide
import Derived.WalkMore
import Derived.Deep.LoopGhost
import Derived.Below
import Derived.Laws.StructEq
import Derived.Maps.AppendAt
import Derived.Laws.AppendOwnNone
import Derived.OwnWalk
import Derived.Lib.AppendZeros
import Derived.Deep.AppendLies
namespace Go.Proofs.YthchjceibpcgbaaGreatDoor.L
open Go.RowKit
set_option linter.unusedVariables false
set_option linter.unusedSimpArgs false

theorem one {k : IntKind} {a b : Int} (h : a = b) : Ending.returned (.int k a) = .returned (.int k b) := by rw [h]
theorem oneB {a b : Bool} (h : a = b) : Ending.returned (.bool a) = .returned (.bool b) := by rw [h]
theorem bel_trans {a b c : World} (h : Below a.heap.size a b) (k : Below b.heap.size b c) : Below a.heap.size a c := h.trans (k.mono h.size)
theorem bel_alloc {a b : World} (h : Below a.heap.size a b) (o : Obj) : Below a.heap.size a (b.alloc o) := h.alloc h.size o
theorem bcell {W w1 : World} (hb : Below W.heap.size W w1) : (∀ b o, b < W.heap.size → w1.cell? ⟨b, o, none⟩ = W.cell? ⟨b, o, none⟩) ∧ (∀ b o, b < W.heap.size → w1.frozen? ⟨b, o, none⟩ = W.frozen? ⟨b, o, none⟩) :=
  ⟨fun b o h => hb.cell (p := ⟨b, o, none⟩) h, fun b o h => hb.frozen (p := ⟨b, o, none⟩) h⟩
theorem at_list (s : ByteArray) (k : Nat) (h : k < s.size) : s.data.toList[k]'(by simpa using h) = s[k] := rfl
theorem len_list (s : ByteArray) : s.data.toList.length = s.size := Array.length_toList
theorem beq_no' {a b : Int} (h : a ≠ b) : (a == b) = false := by simp [h]
theorem beq_yes' {a b : Int} (h : a = b) : (a == b) = true := by simp [h]
def BA (l : List UInt8) : ByteArray := ⟨l.toArray⟩
theorem BA_list (l : List UInt8) : (BA l).data.toList = l := rfl
theorem BA_size (l : List UInt8) : (BA l).size = l.length := by simp [BA, ByteArray.size]
theorem BA_toList (l : List UInt8) : (BA l).toList = l := by rw [ByteArray.toList_eq]; rfl
theorem BA_of (s : ByteArray) : BA s.data.toList = s := rfl
theorem drop_at (s : ByteArray) (k : Nat) (h : k < s.size) : s.data.toList.drop k = s[k] :: s.data.toList.drop (k + 1) := by
  rw [List.drop_eq_getElem_cons (by simpa using h)]; rfl
theorem drop_end (s : ByteArray) (k : Nat) (h : s.size ≤ k) : s.data.toList.drop k = [] := List.drop_eq_nil_of_le (by rw [len_list]; exact h)

/-- from an offset on, a block holds these texts -/
def RowS (w : World) (b o : Nat) (X : List ByteArray) : Prop := ∀ k (h : k < X.length), w.cell? ⟨b, o + k, none⟩ = some (.string X[k])
/-- a slice's address and length read as a list of texts -/
def IsS (w : World) (a : Option Addr) (n : Nat) (X : List ByteArray) : Prop := n = X.length ∧ (0 < n → ∃ b o, a = some ⟨b, o, none⟩ ∧ b < w.heap.size ∧ RowS w b o X)
theorem RowS.below {w w' : World} {b o B : Nat} {X : List ByteArray} (h : RowS w b o X) (hb : Below B w w') (hlt : b < B) : RowS w' b o X := fun k hk => by
  rw [hb.cell (p := ⟨b, _, none⟩) hlt]; exact h k hk
theorem IsS.below {w w' : World} {a : Option Addr} {n : Nat} {X : List ByteArray} (h : IsS w a n X) (hb : Below w.heap.size w w') : IsS w' a n X :=
  ⟨h.1, fun hn => by
    obtain ⟨b, o, ha, hlt, hr⟩ := h.2 hn
    exact ⟨b, o, ha, Nat.lt_of_lt_of_le hlt hb.size, hr.below hb hlt⟩⟩
theorem IsS.drew {w : World} {a : Option Addr} {n : Nat} {X : List ByteArray} (h : IsS w a n X) (d : Nat) : IsS (w.drewN d) a n X := h.below (below_drewN (Below.refl _ _) d)
theorem IsS.nil (w : World) (a : Option Addr) : IsS w a 0 [] := ⟨rfl, fun h => absurd h (by omega)⟩
theorem IsS.at {w : World} {a : Option Addr} {n k : Nat} {X : List ByteArray} (h : IsS w a n X) (hk : k < n) :
    ∃ b o x, a = some ⟨b, o, none⟩ ∧ b < w.heap.size ∧ w.cell? ⟨b, o + k, none⟩ = some (.string x) ∧ X[k]? = some x ∧ RowS w b o X := by
  obtain ⟨b, o, ha, hlt, hr⟩ := h.2 (by omega)
  exact ⟨b, o, X[k]'(h.1 ▸ hk), ha, hlt, hr k (h.1 ▸ hk), List.getElem?_eq_getElem _, hr⟩

theorem eqS_iff {x y : ByteArray} : (x.toList == y.toList) = true ↔ x = y := by
  rw [beq_iff_eq, ByteArray.toList_eq, ByteArray.toList_eq]
  constructor
  · intro h
    have : x.data = y.data := by rw [← Array.toArray_toList (xs := x.data), h]
    cases x; cases y; simp at this; rw [this]
  · rintro rfl; rfl
theorem eqS_refl (x : ByteArray) : (x.toList == x.toList) = true := eqS_iff.2 rfl
/-- is a text in a list? -/
def hasS (X : List ByteArray) (s : ByteArray) : Bool := X.any (fun x => x.toList == s.toList)
theorem hasS_iff {X : List ByteArray} {s : ByteArray} : hasS X s = true ↔ s ∈ X := by
  unfold hasS
  rw [List.any_eq_true]
  constructor
  · rintro ⟨x, hx, h⟩; rw [eqS_iff] at h; exact h ▸ hx
  · intro h; exact ⟨s, h, eqS_refl s⟩
/-- the first place of a text in a list, its length if there is none -/
def idxN (X : List ByteArray) (s : ByteArray) : Nat := X.findIdx (fun x => x.toList == s.toList)
def idxI (X : List ByteArray) (s : ByteArray) : Int := if idxN X s < X.length then (idxN X s : Int) else -1
theorem idxN_le (X : List ByteArray) (s : ByteArray) : idxN X s ≤ X.length := List.findIdx_le_length
def eqL : List ByteArray → List ByteArray → Bool
  | [], [] => true
  | x :: l, y :: m => (x.toList == y.toList) && eqL l m
  | _, _ => false
theorem eqL_iff : ∀ {X Y : List ByteArray}, eqL X Y = true ↔ X = Y
  | [], [] => by simp [eqL]
  | x :: l, [] => by simp [eqL]
  | [], y :: m => by simp [eqL]
  | x :: l, y :: m => by rw [eqL, Bool.and_eq_true, eqS_iff, eqL_iff]; simp
theorem eqL_refl (X : List ByteArray) : eqL X X = true := eqL_iff.2 rfl
theorem eqL_len {X Y : List ByteArray} (h : X.length ≠ Y.length) : eqL X Y = false := by
  cases hc : eqL X Y with
  | false => rfl
  | true => exact absurd (congrArg List.length (eqL_iff.1 hc)) h

/-- a slice value read as a list of texts: with what an append asks of it -/
def SlS (w : World) (a : Option Addr) (n c : Nat) (X : List ByteArray) : Prop := IsS w a n X ∧ n ≤ c ∧ (a = none → c = 0)
theorem SlS.below {w w' : World} {a : Option Addr} {n c : Nat} {X : List ByteArray} (h : SlS w a n c X) (hb : Below w.heap.size w w') : SlS w' a n c X := ⟨h.1.below hb, h.2⟩
def vsS (X : List ByteArray) : List Value := X.map .string
theorem vsS_len (X : List ByteArray) : (vsS X).length = X.length := by simp [vsS]
theorem vsS_app (X Y : List ByteArray) : vsS (X ++ Y) = vsS X ++ vsS Y := by simp [vsS]
theorem strI : (Tryz.prog.info? 9).map (fun i => (i.zero, i.size, i.bytes)) = some (some (.string ⟨#[]⟩), 1, 16) := by kernel_rfl
/-- a row of the call's own, read as a list of texts -/
def OwnS (w : World) (base : Nat) (v : Value) (X : List ByteArray) : Prop := w.ownsRow base 9 1 v X.length (vsS X)
theorem OwnS.nil (w : World) (base : Nat) : OwnS w base (.slice none 0 0) [] := World.ownsRow_nil _ _ _ _
theorem OwnS.base {w : World} {b b' : Nat} {v : Value} {X : List ByteArray} (h : OwnS w b v X) (hb : b' ≤ b) : OwnS w b' v X := by
  refine ⟨h.1, ?_⟩
  rcases h.2 with hn | ⟨g, cap, cur, rfl, h1, rest⟩
  · exact .inl hn
  · exact .inr ⟨g, cap, cur, rfl, by omega, rest⟩
theorem OwnS.made (w : World) (X : List ByteArray) (base : Nat) (hb : base ≤ w.heap.size) (hl : X.length ≤ maxLen) : OwnS (w.alloc (.cells (vsS X).toArray 9)) base (.slice (some ⟨w.heap.size, 0, none⟩) X.length X.length) X :=
  ⟨by simp [vsS], .inr ⟨w.heap.size, X.length, _, rfl, hb, heap_alloc_new w _, Nat.le_refl _, hl, by simp [vsS], by simp [vsS, List.take_of_length_le]⟩⟩
theorem OwnS.slS {w : World} {base : Nat} {v : Value} {X : List ByteArray} (h : OwnS w base v X) : ∃ A c, v = .slice A X.length c ∧ SlS w A X.length c X := by
  rcases h.2 with ⟨rfl, hn⟩ | ⟨g, cap, cur, rfl, hb, hg, hnc, hcm, hcs, ht⟩
  · exact ⟨none, 0, by rw [hn], ⟨rfl, fun h => absurd h (by omega)⟩, by omega, fun _ => rfl⟩
  · refine ⟨_, _, rfl, ⟨rfl, fun _ => ⟨g, 0, rfl, (Array.getElem?_eq_some_iff.1 hg).1, fun k hk => ?_⟩⟩, hnc, fun h => by cases h⟩
    rw [Nat.zero_add, cell_of_row w g k _ _ _ hg]
    have h2 : (cur.toList.take (X.length * 1))[k]? = (vsS X)[k]? := by rw [ht]
    rw [List.getElem?_take_of_lt (by omega)] at h2
    rw [← Array.getElem?_toList, h2]
    simp [vsS, hk]
theorem OwnS.below {w w' : World} {base : Nat} {v : Value} {X : List ByteArray} (h : OwnS w base v X) (hb : Below w.heap.size w w') : OwnS w' base v X := by
  refine ⟨h.1, ?_⟩
  rcases h.2 with hn | ⟨g, cap, cur, rfl, h1, hg, rest⟩
  · exact .inl hn
  · exact .inr ⟨g, cap, cur, rfl, h1, by rw [hb.block g (Array.getElem?_eq_some_iff.1 hg).1]; exact hg, rest⟩
theorem news_at {w : World} {ad : Addr} {n : Nat} {X : List ByteArray} (h : IsS w (some ad) n X) : ∀ j u, (vsS X)[j]? = some u → w.cell? (ad.add j) = some u := fun j u hj => by
  obtain ⟨hj2, hu⟩ := List.getElem?_eq_some_iff.1 hj
  rw [vsS_len] at hj2
  obtain ⟨b, o, ha, _, hr⟩ := h.2 (by rw [h.1]; omega)
  injection ha with ha
  subst ha
  rw [Addr.add_lit, hr j hj2, ← hu]
  simp [vsS]
theorem vsS_one (X : List ByteArray) : ∀ u ∈ vsS X, u.oneCell' = true := fun u hu => by
  obtain ⟨x, _, rfl⟩ := List.mem_map.1 hu
  rfl

/-- a block that holds two slices -/
def Two (w : World) (h : Nat) (u v : Value) : Prop := w.cell? ⟨h, 0, none⟩ = some u ∧ w.cell? ⟨h, 1, none⟩ = some v
theorem Two.below {w w' : World} {h B : Nat} {u v : Value} (t : Two w h u v) (hb : Below B w w') (hlt : h < B) : Two w' h u v :=
  ⟨(hb.cell (p := ⟨h, 0, none⟩) hlt).trans t.1, (hb.cell (p := ⟨h, 1, none⟩) hlt).trans t.2⟩
end Go.Proofs.YthchjceibpcgbaaGreatDoor.L
namespace Go.Proofs.YthchjceibpcgbaaGreatDoor.L
open Go.RowKit
set_option linter.unusedVariables false
set_option linter.unusedSimpArgs false

/-- a block that is known whole -/
def Blk (w : World) (g : Nat) (cs : Array Value) (t : TypeId) : Prop := w.heap[g]? = some (.cells cs t (0, 0))
theorem Blk.new (w : World) (cs : Array Value) (t : TypeId) : Blk (w.alloc (.cells cs t)) w.heap.size cs t := heap_alloc_new w _
theorem Blk.lt {w : World} {g : Nat} {cs : Array Value} {t : TypeId} (h : Blk w g cs t) : g < w.heap.size := (Array.getElem?_eq_some_iff.1 h).1
theorem Blk.cell {w : World} {g : Nat} {cs : Array Value} {t : TypeId} (h : Blk w g cs t) (k : Nat) : w.cell? ⟨g, k, none⟩ = cs[k]? := cell_of_row w g k _ _ _ h
theorem Blk.free {w : World} {g : Nat} {cs : Array Value} {t : TypeId} (h : Blk w g cs t) (k : Nat) : w.frozen? ⟨g, k, none⟩ = false := frozen_of_row w g k _ _ h
theorem Blk.alloc {w : World} {g : Nat} {cs : Array Value} {t : TypeId} (h : Blk w g cs t) (o : Obj) : Blk (w.alloc o) g cs t := (heap_alloc_old w o h.lt).trans h
theorem Blk.below {w w' : World} {g : Nat} {cs : Array Value} {t : TypeId} (h : Blk w g cs t) (hb : Below w.heap.size w w') : Blk w' g cs t := (hb.block g h.lt).trans h
theorem Blk.grown {w w' : World} {g : Nat} {cs : Array Value} {t : TypeId} {r : Option Nat} (h : Blk w g cs t) (hg : w.grownBy w' r) (hne : some g ≠ r) : Blk w' g cs t := (hg.block g h.lt hne).trans h
theorem Blk.set {w : World} {g : Nat} {cs : Array Value} {t : TypeId} (h : Blk w g cs t) (k : Nat) (v : Value) : Blk (w.setCell ⟨g, k, none⟩ v) g (cs.setIfInBounds k v) t := heap_setCell_same w g k cs t v h
theorem Blk.far {w : World} {g g' : Nat} {cs : Array Value} {t : TypeId} (h : Blk w g cs t) (hne : g' ≠ g) (k : Nat) (v : Value) : Blk (w.setCell ⟨g', k, none⟩ v) g cs t := (heap_setCell_other w ⟨g', k, none⟩ g v (fun e => hne e.symm)).trans h
/-- a slice that does not lie in this block -/
def Off (g : Nat) (A : Option Addr) (n : Nat) : Prop := 0 < n → ∀ b o, A = some ⟨b, o, none⟩ → b ≠ g
theorem SlS.far {w : World} {A : Option Addr} {n c : Nat} {X : List ByteArray} {g : Nat} (h : SlS w A n c X) (ho : Off g A n) (k : Nat) (v : Value) : SlS (w.setCell ⟨g, k, none⟩ v) A n c X := by
  refine ⟨⟨h.1.1, fun hn => ?_⟩, h.2⟩
  obtain ⟨b, o, ha, hlt, hr⟩ := h.1.2 hn
  refine ⟨b, o, ha, by simpa [World.setCell] using hlt, fun i hi => ?_⟩
  exact (World.cell?_of_block (heap_setCell_other w ⟨g, k, none⟩ b v (ho hn b o ha))).trans (hr i hi)
theorem off_old {w : World} {A : Option Addr} {n c : Nat} {X : List ByteArray} {g : Nat} (h : SlS w A n c X) (hg : w.heap.size ≤ g) : Off g A n := fun hn b o ha e => by
  obtain ⟨b', o', ha', hlt, _⟩ := h.1.2 hn
  rw [ha] at ha'
  injection ha' with ha'
  injection ha' with h1
  omega
/-- a row of the call's own lies at its base or behind -/
theorem off_row {w : World} {A : Option Addr} {n n' c g base size : Nat} {t : TypeId} {xs : List Value} (h : w.ownsRow base t size (.slice A n c) n' xs) (hg : g < base) : Off g A n := fun hn b o ha e => by
  rcases h.2 with ⟨hv, _⟩ | ⟨g', cap, cur, hv, hb, _⟩
  · injection hv with h1; rw [h1] at ha; cases ha
  · injection hv with h1
    rw [ha] at h1
    injection h1 with h1
    injection h1 with h1
    omega
theorem off_own {w : World} {A : Option Addr} {n c : Nat} {X : List ByteArray} {g base : Nat} (h : OwnS w base (.slice A n c) X) (hg : g < base) : Off g A n := off_row h hg
theorem own_sl {w : World} {base : Nat} {A : Option Addr} {n c : Nat} {X : List ByteArray} (h : OwnS w base (.slice A n c) X) (hn : n = X.length) : SlS w A n c X := by
  obtain ⟨A', c', hv, hS⟩ := h.slS
  injection hv with h1 h2 h3
  subst h1 h3
  rw [hn]; exact hS
theorem grown_setRow (w : World) (g : Nat) (cs : Array Value) : w.grownBy (w.setRow g cs) (some g) :=
  ⟨rfl, rfl, rfl, by simp [World.setRow], fun k _ hk => setRow_other w g k cs (fun e => hk (by rw [e]))⟩
theorem grown_setCell (w : World) (x k : Nat) (v : Value) : w.grownBy (w.setCell ⟨x, k, none⟩ v) (some x) :=
  ⟨rfl, rfl, rfl, by simp [World.setCell], fun j _ hj => heap_setCell_other w ⟨x, k, none⟩ j v (fun e => hj (by rw [e]))⟩
/-- a row of the call's own stands when a block ahead of its base is written -/
theorem row_far {w : World} {base size n x : Nat} {t : TypeId} {v : Value} {xs : List Value} (h : w.ownsRow base t size v n xs) (hx : x < base) (k : Nat) (u : Value) : (w.setCell ⟨x, k, none⟩ u).ownsRow base t size v n xs := by
  refine World.ownsRow.kept h (grown_setCell w x k u) ?_
  cases hv : v.ownBlock with
  | none => exact .inl rfl
  | some y => exact .inr (fun e => by injection e with e; have := (World.ownsRow.lt h y hv).1; omega)
theorem cell_far {w : World} {g k x j : Nat} {u v : Value} (h : w.cell? ⟨g, k, none⟩ = some u) (hne : g ≠ x) : (w.setCell ⟨x, j, none⟩ v).cell? ⟨g, k, none⟩ = some u :=
  (World.cell?_of_block (heap_setCell_other w ⟨x, j, none⟩ g v hne)).trans h
theorem below_set {B g : Nat} {w0 w : World} (h : Below B w0 w) (hg : B ≤ g) (k : Nat) (v : Value) : Below B w0 (w.setCell ⟨g, k, none⟩ v) := h.setCell (p := ⟨g, k, none⟩) hg v
end Go.Proofs.YthchjceibpcgbaaGreatDoor.L
namespace Go.Proofs.YthchjceibpcgbaaGreatDoor.L
open Go.RowKit
set_option linter.unusedVariables false
set_option linter.unusedSimpArgs false

end Go.Proofs.YthchjceibpcgbaaGreatDoor.L
namespace Go.Proofs.YthchjceibpcgbaaGreatDoor.L
set_option linter.unusedVariables false
set_option linter.unusedSimpArgs false

/-- a comparison: a total preorder -/
structure Cmp3 (c : Nat → Nat → Int) : Prop where
  anti : ∀ i j, c j i = - c i j
  trans : ∀ i j k, c i j ≤ 0 → c j k ≤ 0 → c i k ≤ 0
/-- ahead of, or alike and of a smaller place -/
def lx (c : Nat → Nat → Int) (i j : Nat) : Prop := c i j < 0 ∨ (c i j = 0 ∧ i < j)
theorem lx_le {c : Nat → Nat → Int} {i j : Nat} (h : lx c i j) : c i j ≤ 0 := by rcases h with h | h <;> omega
theorem Cmp3.refl {c : Nat → Nat → Int} (h : Cmp3 c) (i : Nat) : c i i = 0 := by have := h.anti i i; omega
theorem lx_trans {c : Nat → Nat → Int} (h : Cmp3 c) {i j k : Nat} (h1 : lx c i j) (h2 : lx c j k) : lx c i k := by
  have hle := h.trans i j k (lx_le h1) (lx_le h2)
  by_cases h0 : c i k < 0
  · exact .inl h0
  · have e : c i k = 0 := by omega
    have a1 := h.anti i k
    have a2 := h.trans j k i (lx_le h2) (by omega)
    have a3 := h.anti i j
    have b2 := h.trans k i j (by omega) (lx_le h1)
    have b3 := h.anti j k
    rcases h1 with h1 | ⟨h1, h1'⟩
    · omega
    · rcases h2 with h2 | ⟨h2, h2'⟩
      · omega
      · exact .inr ⟨e, by omega⟩
theorem lx_irrefl {c : Nat → Nat → Int} (h : Cmp3 c) (i : Nat) : ¬ lx c i i := by rintro (h1 | ⟨_, h1⟩); have := h.refl i; omega; omega
theorem lx_ge {c : Nat → Nat → Int} (h : Cmp3 c) {x y : Nat} (h1 : ¬ c y x < 0) (h2 : x < y) : lx c x y := by
  have := h.anti x y
  by_cases h0 : c x y < 0
  · exact .inl h0
  · exact .inr ⟨by omega, h2⟩
def Srt (c : Nat → Nat → Int) (l : List Nat) : Prop := l.Pairwise (lx c)
theorem srt_app {c : Nat → Nat → Int} {A B : List Nat} (h1 : Srt c A) (h2 : Srt c B) (h : ∀ x ∈ A, ∀ y ∈ B, lx c x y) : Srt c (A ++ B) := List.pairwise_append.2 ⟨h1, h2, h⟩
theorem srt_take {c : Nat → Nat → Int} {A : List Nat} (h : Srt c A) (k : Nat) : Srt c (A.take k) := h.sublist (List.take_sublist _ _)
theorem srt_drop {c : Nat → Nat → Int} {A : List Nat} (h : Srt c A) (k : Nat) : Srt c (A.drop k) := h.sublist (List.drop_sublist _ _)
theorem srt_td {c : Nat → Nat → Int} {A : List Nat} (h : Srt c A) (k : Nat) : ∀ x ∈ A.take k, ∀ y ∈ A.drop k, lx c x y := by
  have := List.pairwise_append.1 (show (A.take k ++ A.drop k).Pairwise (lx c) by rw [List.take_append_drop]; exact h)
  exact this.2.2
theorem srt_at {c : Nat → Nat → Int} {A : List Nat} (h : Srt c A) {i j x y : Nat} (hi : A[i]? = some x) (hj : A[j]? = some y) (hij : i < j) : lx c x y := by
  obtain ⟨h1, rfl⟩ := List.getElem?_eq_some_iff.1 hi
  obtain ⟨h2, rfl⟩ := List.getElem?_eq_some_iff.1 hj
  exact List.pairwise_iff_getElem.1 h i j h1 h2 hij
/-- one place put among sorted ones, from the left -/
theorem put_left {c : Nat → Nat → Int} (hc : Cmp3 c) {B : List Nat} {x k : Nat} (hs : Srt c B) (hx : ∀ y ∈ B, x < y) (h1 : ∀ y ∈ B.take k, c y x < 0) (h2 : ∀ y ∈ B.drop k, ¬ c y x < 0) :
    Srt c (B.take k ++ x :: B.drop k) :=
  srt_app (srt_take hs k) (List.pairwise_cons.2 ⟨fun y hy => lx_ge hc (h2 y hy) (hx y (List.drop_subset _ _ hy)), srt_drop hs k⟩) fun y hy z hz => by
    rcases List.mem_cons.1 hz with rfl | hz
    · exact .inl (h1 y hy)
    · exact srt_td hs k y hy z hz
/-- from the right -/
theorem put_right {c : Nat → Nat → Int} (hc : Cmp3 c) {A : List Nat} {y k : Nat} (hs : Srt c A) (hy : ∀ x ∈ A, x < y) (h1 : ∀ x ∈ A.take k, ¬ c y x < 0) (h2 : ∀ x ∈ A.drop k, c y x < 0) :
    Srt c (A.take k ++ y :: A.drop k) :=
  srt_app (srt_take hs k) (List.pairwise_cons.2 ⟨fun x hx => .inl (h2 x hx), srt_drop hs k⟩) fun x hx z hz => by
    rcases List.mem_cons.1 hz with rfl | hz
    · exact lx_ge hc (h1 x hx) (hy x (List.take_subset _ _ hx))
    · exact srt_td hs k x hx z hz
theorem put_mid {c : Nat → Nat → Int} {B : List Nat} {x k : Nat} (hs : Srt c B) (h1 : ∀ y ∈ B.take k, lx c y x) (h2 : ∀ y ∈ B.drop k, lx c x y) : Srt c (B.take k ++ x :: B.drop k) :=
  srt_app (srt_take hs k) (List.pairwise_cons.2 ⟨h2, srt_drop hs k⟩) fun y hy z hz => by
    rcases List.mem_cons.1 hz with rfl | hz
    · exact h1 y hy
    · exact srt_td hs k y hy z hz
theorem put_perm (B : List Nat) (x k : Nat) : (B.take k ++ x :: B.drop k).Perm (x :: B) := by
  refine List.perm_middle.trans ?_
  rw [List.take_append_drop]
/-! both rows cut -/
theorem cut_lr {c : Nat → Nat → Int} (hc : Cmp3 c) {A B : List Nat} {s e : Nat} (hA : Srt c A) (hB : Srt c B) (hi : ∀ x ∈ A, ∀ y ∈ B, x < y)
    (h : s = 0 ∨ B.length ≤ e ∨ ∃ x y, A[s - 1]? = some x ∧ B[e]? = some y ∧ ¬ c y x < 0) : ∀ x ∈ A.take s, ∀ y ∈ B.drop e, lx c x y := by
  intro x hx y hy
  rcases h with h | h | ⟨x', y', h1, h2, h3⟩
  · subst h; simp at hx
  · rw [List.drop_eq_nil_of_le h] at hy; cases hy
  · have hm := lx_ge hc h3 (hi x' (List.mem_of_getElem? h1) y' (List.mem_of_getElem? h2))
    obtain ⟨i, hi1⟩ := List.mem_iff_getElem?.1 hx
    obtain ⟨j, hj1⟩ := List.mem_iff_getElem?.1 hy
    rw [List.getElem?_drop] at hj1
    have hi2 : i < s := by
      have := (List.getElem?_eq_some_iff.1 hi1).1
      rw [List.length_take] at this; omega
    rw [List.getElem?_take_of_lt hi2] at hi1
    have a1 : x = x' ∨ lx c x x' := by
      by_cases e1 : i = s - 1
      · subst e1; rw [h1] at hi1; injection hi1 with hi1; exact .inl hi1.symm
      · exact .inr (srt_at hA hi1 h1 (by omega))
    have a2 : y' = y ∨ lx c y' y := by
      by_cases e1 : j = 0
      · subst e1; rw [Nat.add_zero, h2] at hj1; injection hj1 with hj1; exact .inl hj1
      · exact .inr (srt_at hB h2 hj1 (by omega))
    rcases a1 with rfl | a1
    · rcases a2 with rfl | a2
      · exact hm
      · exact lx_trans hc hm a2
    · rcases a2 with rfl | a2
      · exact lx_trans hc a1 hm
      · exact lx_trans hc a1 (lx_trans hc hm a2)
theorem cut_rl {c : Nat → Nat → Int} (hc : Cmp3 c) {A B : List Nat} {s e : Nat} (hA : Srt c A) (hB : Srt c B)
    (h : A.length ≤ s ∨ e = 0 ∨ ∃ x y, A[s]? = some x ∧ B[e - 1]? = some y ∧ c y x < 0) : ∀ y ∈ B.take e, ∀ x ∈ A.drop s, lx c y x := by
  intro y hy x hx
  rcases h with h | h | ⟨x', y', h1, h2, h3⟩
  · rw [List.drop_eq_nil_of_le h] at hx; cases hx
  · subst h; simp at hy
  · have hm : lx c y' x' := .inl h3
    obtain ⟨i, hi1⟩ := List.mem_iff_getElem?.1 hy
    obtain ⟨j, hj1⟩ := List.mem_iff_getElem?.1 hx
    rw [List.getElem?_drop] at hj1
    have hi2 : i < e := by
      have := (List.getElem?_eq_some_iff.1 hi1).1
      rw [List.length_take] at this; omega
    rw [List.getElem?_take_of_lt hi2] at hi1
    have a1 : y = y' ∨ lx c y y' := by
      by_cases e1 : i = e - 1
      · subst e1; rw [h2] at hi1; injection hi1 with hi1; exact .inl hi1.symm
      · exact .inr (srt_at hB hi1 h2 (by omega))
    have a2 : x' = x ∨ lx c x' x := by
      by_cases e1 : j = 0
      · subst e1; rw [Nat.add_zero, h1] at hj1; injection hj1 with hj1; exact .inl hj1
      · exact .inr (srt_at hA h1 hj1 (by omega))
    rcases a1 with rfl | a1
    · rcases a2 with rfl | a2
      · exact hm
      · exact lx_trans hc hm a2
    · rcases a2 with rfl | a2
      · exact lx_trans hc a1 hm
      · exact lx_trans hc a1 (lx_trans hc hm a2)
theorem merged {c : Nat → Nat → Int} {A B M1 M2 : List Nat} {s e : Nat} (p1 : M1.Perm (A.take s ++ B.take e)) (p2 : M2.Perm (A.drop s ++ B.drop e)) (s1 : Srt c M1) (s2 : Srt c M2)
    (hA : Srt c A) (hB : Srt c B) (h1 : ∀ x ∈ A.take s, ∀ y ∈ B.drop e, lx c x y) (h2 : ∀ y ∈ B.take e, ∀ x ∈ A.drop s, lx c y x) : Srt c (M1 ++ M2) ∧ (M1 ++ M2).Perm (A ++ B) := by
  refine ⟨srt_app s1 s2 fun x hx y hy => ?_, ?_⟩
  · rcases List.mem_append.1 (p1.mem_iff.1 hx) with hx | hx <;> rcases List.mem_append.1 (p2.mem_iff.1 hy) with hy | hy
    · exact srt_td hA s x hx y hy
    · exact h1 x hx y hy
    · exact h2 x hx y hy
    · exact srt_td hB e x hx y hy
  · refine (p1.append p2).trans ?_
    have e1 : (A.take s ++ B.take e ++ (A.drop s ++ B.drop e)).Perm (A.take s ++ A.drop s ++ (B.take e ++ B.drop e)) := by
      rw [List.append_assoc, List.append_assoc]
      refine List.Perm.append_left _ ?_
      rw [← List.append_assoc, ← List.append_assoc]
      exact List.Perm.append_right _ List.perm_append_comm
    rw [List.take_append_drop, List.take_append_drop] at e1
    exact e1
/-! swaps -/
def swapL (a b : Nat) (z : List Nat) : Nat → List Nat
  | 0 => z
  | k + 1 => (((swapL a b z k).set (a + k) ((swapL a b z k).getD (b + k) 0)).set (b + k) ((swapL a b z k).getD (a + k) 0))
theorem swapL_len (a b : Nat) (z : List Nat) : ∀ k, (swapL a b z k).length = z.length
  | 0 => rfl
  | k + 1 => by rw [swapL, List.length_set, List.length_set, swapL_len a b z k]
theorem set_mid (P S : List Nat) (x y : Nat) : (P ++ x :: S).set P.length y = P ++ y :: S := by rw [List.set_append_right _ _ (Nat.le_refl _), Nat.sub_self, List.set_cons_zero]
theorem swapL_row (P Q S : List Nat) : ∀ (k : Nat) (U1 U2 V1 V2 : List Nat), U1.length = k → V1.length = k → swapL P.length (P.length + (U1 ++ U2).length + Q.length) (P ++ (U1 ++ U2) ++ Q ++ (V1 ++ V2) ++ S) k = P ++ (V1 ++ U2) ++ Q ++ (U1 ++ V2) ++ S
  | 0, U1, U2, V1, V2, h1, h2 => by
    have e1 := List.eq_nil_of_length_eq_zero h1
    have e2 := List.eq_nil_of_length_eq_zero h2
    subst e1 e2
    rfl
  | k + 1, U1, U2, V1, V2, h1, h2 => by
    obtain ⟨U, u, rfl⟩ : ∃ U u, U1 = U ++ [u] := ⟨U1.dropLast, U1.getLast (by intro e; rw [e] at h1; cases h1), (List.dropLast_concat_getLast _).symm⟩
    obtain ⟨V, v, rfl⟩ : ∃ V v, V1 = V ++ [v] := ⟨V1.dropLast, V1.getLast (by intro e; rw [e] at h2; cases h2), (List.dropLast_concat_getLast _).symm⟩
    have hU : U.length = k := by simpa using h1
    have hV : V.length = k := by simpa using h2
    have ih := swapL_row P Q S k U (u :: U2) V (v :: V2) hU hV
    rw [swapL]
    have e0 : U ++ [u] ++ U2 = U ++ u :: U2 := by simp
    have e1 : V ++ [v] ++ V2 = V ++ v :: V2 := by simp
    rw [e0, e1, ih]
    have g1 : (P ++ (V ++ u :: U2) ++ Q ++ (U ++ v :: V2) ++ S).getD (P.length + k) 0 = u := by
      rw [List.getD_eq_getElem?_getD]
      rw [show P ++ (V ++ u :: U2) ++ Q ++ (U ++ v :: V2) ++ S = (P ++ V) ++ u :: (U2 ++ Q ++ (U ++ v :: V2) ++ S) by simp]
      rw [List.getElem?_append_right (by simp; omega)]
      simp [hV]
    have g2 : (P ++ (V ++ u :: U2) ++ Q ++ (U ++ v :: V2) ++ S).getD (P.length + (U ++ u :: U2).length + Q.length + k) 0 = v := by
      rw [List.getD_eq_getElem?_getD]
      rw [show P ++ (V ++ u :: U2) ++ Q ++ (U ++ v :: V2) ++ S = (P ++ (V ++ u :: U2) ++ Q ++ U) ++ v :: (V2 ++ S) by simp]
      rw [List.getElem?_append_right (by simp; omega)]
      have : P.length + (U ++ u :: U2).length + Q.length + k - (P ++ (V ++ u :: U2) ++ Q ++ U).length = 0 := by simp; omega
      rw [this]; rfl
    rw [g1, g2]
    have s1 : (P ++ (V ++ u :: U2) ++ Q ++ (U ++ v :: V2) ++ S).set (P.length + k) v = P ++ (V ++ v :: U2) ++ Q ++ (U ++ v :: V2) ++ S := by
      rw [show P ++ (V ++ u :: U2) ++ Q ++ (U ++ v :: V2) ++ S = (P ++ V) ++ u :: (U2 ++ Q ++ (U ++ v :: V2) ++ S) by simp]
      rw [show P.length + k = (P ++ V).length by simp [hV], set_mid]
      simp
    rw [s1]
    rw [show P ++ (V ++ v :: U2) ++ Q ++ (U ++ v :: V2) ++ S = (P ++ (V ++ v :: U2) ++ Q ++ U) ++ v :: (V2 ++ S) by simp]
    rw [show P.length + (U ++ u :: U2).length + Q.length + k = (P ++ (V ++ v :: U2) ++ Q ++ U).length by simp; omega, set_mid]
    simp
/-- two rows of one length change places -/
theorem swapL_all (P U Q V S : List Nat) (h : U.length = V.length) : swapL P.length (P.length + U.length + Q.length) (P ++ U ++ Q ++ V ++ S) U.length = P ++ V ++ Q ++ U ++ S := by
  have := swapL_row P Q S U.length U [] V [] rfl h.symm
  simpa using this
/-! of alike neighbours the first one -/
def runs (c : Nat → Nat → Int) : List Nat → List Nat
  | [] => []
  | [x] => [x]
  | x :: y :: l => if c x y = 0 then runs c (x :: l) else x :: runs c (y :: l)
termination_by l => l.length
end Go.Proofs.YthchjceibpcgbaaGreatDoor.L
