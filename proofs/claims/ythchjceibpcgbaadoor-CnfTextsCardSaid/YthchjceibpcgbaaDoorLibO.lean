/-
  What is proved: basics: endings, worlds that grow, texts as bytes, slices read as lists of texts, rows of the call's own. No function of the program is named.
-/
import Derived.Test.YthchjceibpcgbaaDoorProg
import Derived.WalkKit
import Derived.WalkSpells
import Derived.WalkLawsBesides
import Derived.Laws.ResultCell
import Derived.Deep.QuietTactic
import Derived.BigQuiet
import Derived.LoopTactic
import Derived.Outline
import Derived.Lib.Hide
import Derived.WalkMore
import Derived.Deep.LoopGhost
import Derived.Below
import Derived.Laws.StructEq
import Derived.Maps.AppendAt
import Derived.Laws.AppendOwnNone
import Derived.OwnWalk
import Derived.Lib.AppendZeros
import Derived.Deep.AppendLies
namespace Go.Proofs.YthchjceibpcgbaaDoor.L
open Go.RowKit
set_option linter.unusedVariables false
set_option linter.unusedSimpArgs false

theorem one {k : IntKind} {a b : Int} (h : a = b) : Ending.returned (.int k a) = .returned (.int k b) := by rw [h]
theorem oneB {a b : Bool} (h : a = b) : Ending.returned (.bool a) = .returned (.bool b) := by rw [h]
theorem bel_trans {a b c : World} (h : Below a.heap.size a b) (k : Below b.heap.size b c) : Below a.heap.size a c := h.trans (k.mono h.size)
theorem bel_alloc {a b : World} (h : Below a.heap.size a b) (o : Obj) : Below a.heap.size a (b.alloc o) := h.alloc h.size o
theorem bcell {W w1 : World} (hb : Below W.heap.size W w1) : (∀ b o, b < W.heap.size → w1.cell? ⟨b, o, none⟩ = W.cell? ⟨b, o, none⟩) ∧ (∀ b o, b < W.heap.size → w1.frozen? ⟨b, o, none⟩ = W.frozen? ⟨b, o, none⟩) :=
  ⟨fun b o h => hb.cell (p := ⟨b, o, none⟩) h, fun b o h => hb.frozen (p := ⟨b, o, none⟩) h⟩
theorem at_list (s : ByteArray) (k : Nat) (h : k < s.size) : s.data.toList[k]'(by simpa using h) = s[k] := rfl
theorem len_list (s : ByteArray) : s.data.toList.length = s.size := Array.length_toList
theorem beq_no' {a b : Int} (h : a ≠ b) : (a == b) = false := by simp [h]
theorem beq_yes' {a b : Int} (h : a = b) : (a == b) = true := by simp [h]
def BA (l : List UInt8) : ByteArray := ⟨l.toArray⟩
theorem BA_list (l : List UInt8) : (BA l).data.toList = l := rfl
theorem BA_size (l : List UInt8) : (BA l).size = l.length := by simp [BA, ByteArray.size]
theorem BA_toList (l : List UInt8) : (BA l).toList = l := by rw [ByteArray.toList_eq]; rfl
theorem BA_of (s : ByteArray) : BA s.data.toList = s := rfl
theorem drop_at (s : ByteArray) (k : Nat) (h : k < s.size) : s.data.toList.drop k = s[k] :: s.data.toList.drop (k + 1) := by
  rw [List.drop_eq_getElem_cons (by simpa using h)]; rfl
theorem drop_end (s : ByteArray) (k : Nat) (h : s.size ≤ k) : s.data.toList.drop k = [] := List.drop_eq_nil_of_le (by rw [len_list]; exact h)

/-- from an offset on, a block holds these texts -/
def RowS (w : World) (b o : Nat) (X : List ByteArray) : Prop := ∀ k (h : k < X.length), w.cell? ⟨b, o + k, none⟩ = some (.string X[k])
/-- a slice's address and length read as a list of texts -/
def IsS (w : World) (a : Option Addr) (n : Nat) (X : List ByteArray) : Prop := n = X.length ∧ (0 < n → ∃ b o, a = some ⟨b, o, none⟩ ∧ b < w.heap.size ∧ RowS w b o X)
theorem RowS.below {w w' : World} {b o B : Nat} {X : List ByteArray} (h : RowS w b o X) (hb : Below B w w') (hlt : b < B) : RowS w' b o X := fun k hk => by
  rw [hb.cell (p := ⟨b, _, none⟩) hlt]; exact h k hk
theorem IsS.below {w w' : World} {a : Option Addr} {n : Nat} {X : List ByteArray} (h : IsS w a n X) (hb : Below w.heap.size w w') : IsS w' a n X :=
  ⟨h.1, fun hn => by
    obtain ⟨b, o, ha, hlt, hr⟩ := h.2 hn
    exact ⟨b, o, ha, Nat.lt_of_lt_of_le hlt hb.size, hr.below hb hlt⟩⟩
theorem IsS.drew {w : World} {a : Option Addr} {n : Nat} {X : List ByteArray} (h : IsS w a n X) (d : Nat) : IsS (w.drewN d) a n X := h.below (below_drewN (Below.refl _ _) d)
theorem IsS.nil (w : World) (a : Option Addr) : IsS w a 0 [] := ⟨rfl, fun h => absurd h (by omega)⟩
theorem IsS.at {w : World} {a : Option Addr} {n k : Nat} {X : List ByteArray} (h : IsS w a n X) (hk : k < n) :
    ∃ b o x, a = some ⟨b, o, none⟩ ∧ b < w.heap.size ∧ w.cell? ⟨b, o + k, none⟩ = some (.string x) ∧ X[k]? = some x ∧ RowS w b o X := by
  obtain ⟨b, o, ha, hlt, hr⟩ := h.2 (by omega)
  exact ⟨b, o, X[k]'(h.1 ▸ hk), ha, hlt, hr k (h.1 ▸ hk), List.getElem?_eq_getElem _, hr⟩

theorem eqS_iff {x y : ByteArray} : (x.toList == y.toList) = true ↔ x = y := by
  rw [beq_iff_eq, ByteArray.toList_eq, ByteArray.toList_eq]
  constructor
  · intro h
    have : x.data = y.data := by rw [← Array.toArray_toList (xs := x.data), h]
    cases x; cases y; simp at this; rw [this]
  · rintro rfl; rfl
theorem eqS_refl (x : ByteArray) : (x.toList == x.toList) = true := eqS_iff.2 rfl
/-- is a text in a list? -/
def hasS (X : List ByteArray) (s : ByteArray) : Bool := X.any (fun x => x.toList == s.toList)
theorem hasS_iff {X : List ByteArray} {s : ByteArray} : hasS X s = true ↔ s ∈ X := by
  unfold hasS
  rw [List.any_eq_true]
  constructor
  · rintro ⟨x, hx, h⟩; rw [eqS_iff] at h; exact h ▸ hx
  · intro h; exact ⟨s, h, eqS_refl s⟩
/-- the first place of a text in a list, its length if there is none -/
def idxN (X : List ByteArray) (s : ByteArray) : Nat := X.findIdx (fun x => x.toList == s.toList)
def idxI (X : List ByteArray) (s : ByteArray) : Int := if idxN X s < X.length then (idxN X s : Int) else -1
theorem idxN_le (X : List ByteArray) (s : ByteArray) : idxN X s ≤ X.length := List.findIdx_le_length
def eqL : List ByteArray → List ByteArray → Bool
  | [], [] => true
  | x :: l, y :: m => (x.toList == y.toList) && eqL l m
  | _, _ => false
theorem eqL_iff : ∀ {X Y : List ByteArray}, eqL X Y = true ↔ X = Y
  | [], [] => by simp [eqL]
  | x :: l, [] => by simp [eqL]
  | [], y :: m => by simp [eqL]
  | x :: l, y :: m => by rw [eqL, Bool.and_eq_true, eqS_iff, eqL_iff]; simp
theorem eqL_refl (X : List ByteArray) : eqL X X = true := eqL_iff.2 rfl
theorem eqL_len {X Y : List ByteArray} (h : X.length ≠ Y.length) : eqL X Y = false := by
  cases hc : eqL X Y with
  | false => rfl
  | true => exact absurd (congrArg List.length (eqL_iff.1 hc)) h

/-- a slice value read as a list of texts: with what an append asks of it -/
def SlS (w : World) (a : Option Addr) (n c : Nat) (X : List ByteArray) : Prop := IsS w a n X ∧ n ≤ c ∧ (a = none → c = 0)
theorem SlS.below {w w' : World} {a : Option Addr} {n c : Nat} {X : List ByteArray} (h : SlS w a n c X) (hb : Below w.heap.size w w') : SlS w' a n c X := ⟨h.1.below hb, h.2⟩
def vsS (X : List ByteArray) : List Value := X.map .string
theorem vsS_len (X : List ByteArray) : (vsS X).length = X.length := by simp [vsS]
theorem vsS_app (X Y : List ByteArray) : vsS (X ++ Y) = vsS X ++ vsS Y := by simp [vsS]
theorem strI : (Tryd.prog.info? 9).map (fun i => (i.zero, i.size, i.bytes)) = some (some (.string ⟨#[]⟩), 1, 16) := by kernel_rfl
/-- a row of the call's own, read as a list of texts -/
def OwnS (w : World) (base : Nat) (v : Value) (X : List ByteArray) : Prop := w.ownsRow base 9 1 v X.length (vsS X)
theorem OwnS.nil (w : World) (base : Nat) : OwnS w base (.slice none 0 0) [] := World.ownsRow_nil _ _ _ _
theorem OwnS.base {w : World} {b b' : Nat} {v : Value} {X : List ByteArray} (h : OwnS w b v X) (hb : b' ≤ b) : OwnS w b' v X := by
  refine ⟨h.1, ?_⟩
  rcases h.2 with hn | ⟨g, cap, cur, rfl, h1, rest⟩
  · exact .inl hn
  · exact .inr ⟨g, cap, cur, rfl, by omega, rest⟩
theorem OwnS.made (w : World) (X : List ByteArray) (base : Nat) (hb : base ≤ w.heap.size) (hl : X.length ≤ maxLen) : OwnS (w.alloc (.cells (vsS X).toArray 9)) base (.slice (some ⟨w.heap.size, 0, none⟩) X.length X.length) X :=
  ⟨by simp [vsS], .inr ⟨w.heap.size, X.length, _, rfl, hb, heap_alloc_new w _, Nat.le_refl _, hl, by simp [vsS], by simp [vsS, List.take_of_length_le]⟩⟩
theorem OwnS.slS {w : World} {base : Nat} {v : Value} {X : List ByteArray} (h : OwnS w base v X) : ∃ A c, v = .slice A X.length c ∧ SlS w A X.length c X := by
  rcases h.2 with ⟨rfl, hn⟩ | ⟨g, cap, cur, rfl, hb, hg, hnc, hcm, hcs, ht⟩
  · exact ⟨none, 0, by rw [hn], ⟨rfl, fun h => absurd h (by omega)⟩, by omega, fun _ => rfl⟩
  · refine ⟨_, _, rfl, ⟨rfl, fun _ => ⟨g, 0, rfl, (Array.getElem?_eq_some_iff.1 hg).1, fun k hk => ?_⟩⟩, hnc, fun h => by cases h⟩
    rw [Nat.zero_add, cell_of_row w g k _ _ _ hg]
    have h2 : (cur.toList.take (X.length * 1))[k]? = (vsS X)[k]? := by rw [ht]
    rw [List.getElem?_take_of_lt (by omega)] at h2
    rw [← Array.getElem?_toList, h2]
    simp [vsS, hk]
theorem OwnS.below {w w' : World} {base : Nat} {v : Value} {X : List ByteArray} (h : OwnS w base v X) (hb : Below w.heap.size w w') : OwnS w' base v X := by
  refine ⟨h.1, ?_⟩
  rcases h.2 with hn | ⟨g, cap, cur, rfl, h1, hg, rest⟩
  · exact .inl hn
  · exact .inr ⟨g, cap, cur, rfl, h1, by rw [hb.block g (Array.getElem?_eq_some_iff.1 hg).1]; exact hg, rest⟩
theorem news_at {w : World} {ad : Addr} {n : Nat} {X : List ByteArray} (h : IsS w (some ad) n X) : ∀ j u, (vsS X)[j]? = some u → w.cell? (ad.add j) = some u := fun j u hj => by
  obtain ⟨hj2, hu⟩ := List.getElem?_eq_some_iff.1 hj
  rw [vsS_len] at hj2
  obtain ⟨b, o, ha, _, hr⟩ := h.2 (by rw [h.1]; omega)
  injection ha with ha
  subst ha
  rw [Addr.add_lit, hr j hj2, ← hu]
  simp [vsS]
theorem vsS_one (X : List ByteArray) : ∀ u ∈ vsS X, u.oneCell' = true := fun u hu => by
  obtain ⟨x, _, rfl⟩ := List.mem_map.1 hu
  rfl

/-- a block that holds two slices -/
def Two (w : World) (h : Nat) (u v : Value) : Prop := w.cell? ⟨h, 0, none⟩ = some u ∧ w.cell? ⟨h, 1, none⟩ = some v
theorem Two.below {w w' : World} {h B : Nat} {u v : Value} (t : Two w h u v) (hb : Below B w w') (hlt : h < B) : Two w' h u v :=
  ⟨(hb.cell (p := ⟨h, 0, none⟩) hlt).trans t.1, (hb.cell (p := ⟨h, 1, none⟩) hlt).trans t.2⟩
end Go.Proofs.YthchjceibpcgbaaDoor.L
