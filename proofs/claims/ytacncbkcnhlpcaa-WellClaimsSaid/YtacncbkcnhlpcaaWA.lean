/-
  What is proved: sorts of terms and claims in plain words: what each is of, or where it is wrong first, and how. No program is spoken of.
  What is proved: rows of variables in memory; an argument that is a slice of variables reads as a list of them.
  What is proved: what package well's query for the sort of a variable answers; which sorts variables and binders may have.
-/
import Derived.Test.YtacncbkcnhlpcaaZClmA
import Derived.Test.YtacncbkcnhlpcaaBL
import Derived.Test.YtacncbkcnhlpcaaBG
import Derived.Lib.SmallJoins
import Derived.Deep.Slices
import Derived.Deep.Fields
import Derived.ChangeArms
import Derived.OpenShut
namespace Go.Proofs.Ytacncbkcnhlpcaa.Wl
open Go.RowKit L T C
open Sgn (Core findC hasN knownB zeroC)
set_option linter.unusedVariables false
set_option linter.unusedSimpArgs false

def sInt : ByteArray := ⟨#[73, 110, 116]⟩
def sBool : ByteArray := ⟨#[66, 111, 111, 108]⟩
abbrev Vr := ByteArray × ByteArray
/-- the sort of the first variable with a name -/
def sortV : List Vr → ByteArray → Option ByteArray
  | [], _ => none
  | v :: l, s => if v.1.toList == s.toList then some v.2 else sortV l s
/-- the first place at which two lists of sorts differ -/
def diff : List ByteArray → List ByteArray → Option Nat
  | g :: got, w :: want => if g.toList == w.toList then (diff got want).map (· + 1) else some 0
  | _, _ => none
/-- an error with its way, or a sort -/
structure Wr where
  e : Int
  way : List Int
  so : ByteArray
def Wr.bad (e : Int) (way : List Int) : Wr := ⟨e, way, ⟨#[]⟩⟩
def Wr.ok (s : ByteArray) : Wr := ⟨0, [], s⟩
/-- of sorts as got, those wanted: the answer -/
def askW (got want : List ByteArray) (s : ByteArray) : Wr :=
  match diff got want with
  | some i => .bad 11 [(i : Int)]
  | none => .ok s
/-- the binder of a number -/
def bindB (B : List ByteArray) (z : Int) : ByteArray := (B[B.length - 1 - z.toNat]?).getD ⟨#[]⟩
def opW (K : List Core) (V : List Vr) (B : List ByteArray) (o : Int) (s : ByteArray) (z : Int) (got : List ByteArray) : Wr :=
  if o = 1 then (match sortV V s with | none => .bad 10 [] | some x => .ok x)
  else if o = 2 then (if (B.length : Int) ≤ z then .bad 13 [] else .ok (bindB B z))
  else if o = 3 then (if (!hasN K s || (findC K s).2.2.toList == sBool.toList) = true then .bad 10 [] else if (findC K s).2.1.length ≠ got.length then .bad 12 [] else askW got (findC K s).2.1 (findC K s).2.2)
  else askW got (List.replicate got.length sInt) sInt
mutual
def wlT (K : List Core) (V : List Vr) (B : List ByteArray) : Tm → Wr
  | .mk o s z l => if (wlTs K V B 0 l).1 ≠ 0 then .bad (wlTs K V B 0 l).1 (wlTs K V B 0 l).2.1 else opW K V B o s z (wlTs K V B 0 l).2.2
/-- the sorts of some terms, from a place on; or the first error with its way -/
def wlTs (K : List Core) (V : List Vr) (B : List ByteArray) : Nat → List Tm → Int × List Int × List ByteArray
  | _, [] => (0, [], [])
  | k, t :: l => if (wlT K V B t).e ≠ 0 then ((wlT K V B t).e, (k : Int) :: (wlT K V B t).way, []) else
    if (wlTs K V B (k + 1) l).1 ≠ 0 then ((wlTs K V B (k + 1) l).1, (wlTs K V B (k + 1) l).2.1, []) else (0, [], (wlT K V B t).so :: (wlTs K V B (k + 1) l).2.2)
end
theorem wlT_mk (K : List Core) (V : List Vr) (B : List ByteArray) (t : Tm) : wlT K V B t = if (wlTs K V B 0 (argsT t)).1 ≠ 0 then .bad (wlTs K V B 0 (argsT t)).1 (wlTs K V B 0 (argsT t)).2.1 else opW K V B (opT t) (nameT t) (numT t) (wlTs K V B 0 (argsT t)).2.2 := by
  cases t; rw [wlT]; rfl
/-- the sorts of the terms ahead of a place -/
def sosT (K : List Core) (V : List Vr) (B : List ByteArray) (l : List Tm) : List ByteArray := l.map fun t => (wlT K V B t).so
theorem wlTs_all {K : List Core} {V : List Vr} {B : List ByteArray} : ∀ {l : List Tm} (k : Nat), (∀ t ∈ l, (wlT K V B t).e = 0) → wlTs K V B k l = (0, [], sosT K V B l)
  | [], k, _ => by rw [wlTs]; rfl
  | t :: l, k, h => by
    have ih := wlTs_all (l := l) (k + 1) fun x hx => h x (List.mem_cons_of_mem _ hx)
    rw [wlTs, if_neg (by rw [h t (by simp)]; simp), ih]
    simp [sosT]
theorem wlTs_bad {K : List Core} {V : List Vr} {B : List ByteArray} : ∀ {l : List Tm} (k i : Nat) {t : Tm}, l[i]? = some t → (wlT K V B t).e ≠ 0 → (∀ j x, j < i → l[j]? = some x → (wlT K V B x).e = 0) → wlTs K V B k l = ((wlT K V B t).e, ((k + i : Nat) : Int) :: (wlT K V B t).way, [])
  | [], k, i, t, h, _, _ => by simp at h
  | x :: l, k, 0, t, h, he, _ => by
    injection h with h
    subst h
    rw [wlTs, if_pos he, Nat.add_zero]
  | x :: l, k, i + 1, t, h, he, ha => by
    have h0 := ha 0 x (by omega) rfl
    have ih := wlTs_bad (l := l) (k + 1) i (by simpa using h) he fun j y hj hy => ha (j + 1) y (by omega) (by simpa using hy)
    rw [wlTs, if_neg (by rw [h0]; simp), ih, if_pos he]
    rw [show k + 1 + i = k + (i + 1) by omega]
/-! claims -/
def wantC (K : List Core) (o : Int) (s : ByteArray) (got : List ByteArray) : Wr :=
  if o = 3 then (if (!hasN K s || !((findC K s).2.2.toList == sBool.toList)) = true then .bad 10 [] else if (findC K s).2.1.length ≠ got.length then .bad 12 [] else askW got (findC K s).2.1 ⟨#[]⟩)
  else if o = 4 then askW got [got.headD ⟨#[]⟩, got.headD ⟨#[]⟩] ⟨#[]⟩
  else if o = 5 then askW got [sInt, sInt] ⟨#[]⟩
  else .ok ⟨#[]⟩
def rangeB (S : List ByteArray) (s : ByteArray) : Bool := knownB S s && !(s.toList == sBool.toList)
mutual
def wlC (S : List ByteArray) (K : List Core) (V : List Vr) : List ByteArray → Cl → Wr
  | B, .mk o s z ts l => if (wlTs K V B 0 ts).1 ≠ 0 then .bad (wlTs K V B 0 ts).1 (wlTs K V B 0 ts).2.1 else
    if ((o == 11 || o == 12) && !rangeB S z) = true then .bad 11 [] else
    if (wlCs S K V (if (o == 11 || o == 12) = true then B ++ [z] else B) ts.length l).1 ≠ 0 then .bad (wlCs S K V (if (o == 11 || o == 12) = true then B ++ [z] else B) ts.length l).1 (wlCs S K V (if (o == 11 || o == 12) = true then B ++ [z] else B) ts.length l).2 else wantC K o s (wlTs K V B 0 ts).2.2
def wlCs (S : List ByteArray) (K : List Core) (V : List Vr) : List ByteArray → Nat → List Cl → Int × List Int
  | _, _, [] => (0, [])
  | B, k, c :: l => if (wlC S K V B c).e ≠ 0 then ((wlC S K V B c).e, (k : Int) :: (wlC S K V B c).way) else wlCs S K V B (k + 1) l
end
end Go.Proofs.Ytacncbkcnhlpcaa.Wl
namespace Go.Proofs.Ytacncbkcnhlpcaa.Wl
open Go.RowKit Go.Deep Go.ChangeShapes Go.WideShapes L T C
set_option linter.unusedVariables false
set_option linter.unusedSimpArgs false
set_option maxRecDepth 100000

/-- a slice's address and length read as a list of variables -/
def IsV (w : World) (a : Option Addr) (n : Nat) (V : List Vr) : Prop := n = V.length ∧ (0 < n → ∃ b o, a = some ⟨b, o, none⟩ ∧ b < w.heap.size ∧ ∀ i (h : i < V.length), w.cell? ⟨b, o + i * 2, none⟩ = some (.string V[i].1) ∧ w.cell? ⟨b, o + i * 2 + 1, none⟩ = some (.string V[i].2))
theorem IsV.below {w w' : World} {a : Option Addr} {n : Nat} {V : List Vr} (h : IsV w a n V) (hb : Below w.heap.size w w') : IsV w' a n V :=
  ⟨h.1, fun hn => by
    obtain ⟨b, o, ha, hlt, hr⟩ := h.2 hn
    exact ⟨b, o, ha, Nat.lt_of_lt_of_le hlt hb.size, fun i hi => ⟨(hb.cell (p := ⟨b, _, none⟩) hlt).trans (hr i hi).1, (hb.cell (p := ⟨b, _, none⟩) hlt).trans (hr i hi).2⟩⟩⟩
theorem IsV.at {w : World} {a : Option Addr} {n k : Nat} {V : List Vr} (h : IsV w a n V) (hk : k < n) :
    ∃ b o v, a = some ⟨b, o, none⟩ ∧ b < w.heap.size ∧ w.cell? ⟨b, o + k * 2, none⟩ = some (.string v.1) ∧ w.cell? ⟨b, o + k * 2 + 1, none⟩ = some (.string v.2) ∧ V[k]? = some v := by
  obtain ⟨b, o, ha, hlt, hr⟩ := h.2 (by omega)
  obtain ⟨h1, h2⟩ := hr k (h.1 ▸ hk)
  exact ⟨b, o, V[k]'(h.1 ▸ hk), ha, hlt, h1, h2, List.getElem?_eq_getElem _⟩
theorem IsV.take {w : World} {a : Option Addr} {n : Nat} {V : List Vr} (h : IsV w a n V) (k : Nat) (hk : k ≤ n) : IsV w a k (V.take k) := by
  refine ⟨by rw [List.length_take, ← h.1]; omega, fun hk0 => ?_⟩
  obtain ⟨b, o, ha, hlt, hr⟩ := h.2 (by omega)
  refine ⟨b, o, ha, hlt, fun i hi => ?_⟩
  rw [List.getElem_take]
  exact hr i (by rw [List.length_take] at hi; omega)
/-- the same, with what a slice expression and an append ask of it -/
def SlV (w : World) (a : Option Addr) (n c : Nat) (V : List Vr) : Prop := IsV w a n V ∧ n ≤ c ∧ (a = none → c = 0)
theorem SlV.below {w w' : World} {a : Option Addr} {n c : Nat} {V : List Vr} (h : SlV w a n c V) (hb : Below w.heap.size w w') : SlV w' a n c V := ⟨h.1.below hb, h.2⟩
theorem IsV.nil (w : World) (a : Option Addr) : IsV w a 0 [] := ⟨rfl, fun h => absurd h (by omega)⟩
theorem list_ofV {α : Type} {P : Nat → α → Prop} (n : Nat) (h : ∀ i, i < n → ∃ y, P i y) : ∃ Y : List α, Y.length = n ∧ ∀ i (hi : i < Y.length), P i Y[i] := by
  induction n with
  | zero => exact ⟨[], rfl, fun i hi => absurd hi (by simp)⟩
  | succ n ih =>
    obtain ⟨Y, hl, hY⟩ := ih fun i hi => h i (by omega)
    obtain ⟨y, hy⟩ := h n (by omega)
    refine ⟨Y ++ [y], by simp [hl], fun i hi => ?_⟩
    by_cases hi2 : i < Y.length
    · rw [List.getElem_append_left hi2]; exact hY i hi2
    · have : i = Y.length := by simp at hi; omega
      subst this
      rw [List.getElem_append_right (Nat.le_refl _)]
      simp only [Nat.sub_self, List.getElem_cons_zero]
      rw [hl]; exact hy
theorem one_cellV {H : Type} {enc : TypeId × Value → H} {W : World} {a : Addr} {f0 : Nat} {x : DataW H × List MemPlace} {cs : List Value} {base : Nat} {sp : Nat → Bool} {held : Bool}
    (hc : W.cells? base a 2 = some cs) (ht : DataW.trod enc Try.prog W base sp held f0 64 cs = some x) :
    ∃ y : Vr, W.cell? a = some (.string y.1) ∧ W.cell? (a.add 1) = some (.string y.2) ∧ y.1.size ≤ 9223372036854775807 ∧ y.2.size ≤ 9223372036854775807 := by
  obtain ⟨_, hl, hat⟩ := World.cells?_some hc
  obtain ⟨xs, n2, _, _, _, hxl, hf⟩ := DataW.trod_struct Try.underlying64 ht
  match cs, hl with
  | [c0, c1], _ =>
    match xs, hxl with
    | [x0, x1], _ =>
      have g0 : DataW.trod enc Try.prog W base sp held n2 9 (([c0, c1].drop 0).take (Try.prog.cellsOf 9)) = some x0 := hf 0 _ rfl
      have g1 : DataW.trod enc Try.prog W base sp held n2 9 (([c0, c1].drop 1).take (Try.prog.cellsOf 9)) = some x1 := hf 1 _ rfl
      have z2 : Try.prog.cellsOf 9 = 1 := by kernel_rfl
      rw [z2] at g0 g1
      obtain ⟨k0, e0, _, u0⟩ := DataW.trod_string Try.underlying9 g0
      obtain ⟨k1, e1, _, u1⟩ := DataW.trod_string Try.underlying9 g1
      have q0 : c0 = .string k0 := by simpa using e0
      have q1 : c1 = .string k1 := by simpa using e1
      subst q0 q1
      exact ⟨(k0, k1), by simpa [Addr.add] using hat 0 (by decide), hat 1 (by decide), by unfold maxLen at u0; exact u0, by unfold maxLen at u1; exact u1⟩
theorem vars_open {H : Type} {enc : TypeId × Value → H} {W : World} {a : Option Addr} {n c : Nat} {d : DataW H} {p : List MemPlace} {sp : Nat → Bool} (hsp : ∀ b, sp b = true)
    (h : DataW.Trod enc Try.prog W 0 sp true 26 (.slice a n c) d p) : ∃ V : List Vr, n ≤ 9223372036854775807 ∧ SlV W a n c V ∧ ∀ v ∈ V, v.1.size ≤ 9223372036854775807 ∧ v.2.size ≤ 9223372036854775807 := by
  obtain ⟨fuel, hf⟩ := h
  rcases open_slice Try.underlying26 hf with ⟨hcs, _⟩ | ⟨ad, len, cap, m, n', D, Pl, hcs, _, hl, hmx, hm, _, hi⟩
  · simp [Value.cells] at hcs
    obtain ⟨rfl, rfl, rfl⟩ := hcs
    exact ⟨[], by omega, ⟨⟨rfl, fun h => absurd h (by omega)⟩, by omega, fun _ => rfl⟩, fun v hv => absurd hv (by simp)⟩
  · simp [Value.cells] at hcs
    obtain ⟨rfl, rfl, rfl⟩ := hcs
    rw [hsp, if_pos rfl] at hm
    have hC : Try.prog.cellsOf 64 = 2 := by kernel_rfl
    obtain ⟨Y, hY, hall⟩ := list_ofV n (P := fun i (y : Vr) => W.cell? (ad.add (i * 2)) = some (.string y.1) ∧ W.cell? ((ad.add (i * 2)).add 1) = some (.string y.2) ∧ y.1.size ≤ 9223372036854775807 ∧ y.2.size ≤ 9223372036854775807) (fun i hin => by
      obtain ⟨cs', h1, h2⟩ := hi i (by omega)
      rw [hC] at h1
      exact one_cellV h1 h2)
    refine ⟨Y, by unfold maxLen at hmx; omega, ⟨⟨hY.symm, fun hn => ?_⟩, hl, fun h => by cases h⟩, fun v hv => ?_⟩
    · obtain ⟨b, off, spot⟩ := ad
      have hspot : spot = none := by simpa [Addr.add] using World.cell?_spot (hall 0 (by omega)).1
      subst hspot
      refine ⟨b, off, rfl, ?_, fun i hi2 => ?_⟩
      · have := (hall 0 (by omega)).1
        rw [Go.WideShapes.add_plain] at this
        exact World.block_lt_of_cell? _ _ this
      · obtain ⟨h1, h2, _⟩ := hall i hi2
        rw [Go.WideShapes.add_plain] at h1 h2
        rw [Go.WideShapes.add_plain] at h2
        exact ⟨h1, h2⟩
    · obtain ⟨i, hi, rfl⟩ := List.mem_iff_getElem.1 hv
      exact (hall i hi).2.2
theorem vars_open_all {H : Type} {enc : TypeId × Value → H} {W : World} {a : Option Addr} {n c : Nat} {d : DataW H} {p : List MemPlace}
    (h : DataW.Trod enc Try.prog W 0 (fun _ => true) true 26 (.slice a n c) d p) : ∃ V : List Vr, n ≤ 9223372036854775807 ∧ SlV W a n c V ∧ ∀ v ∈ V, v.1.size ≤ 9223372036854775807 ∧ v.2.size ≤ 9223372036854775807 := vars_open (fun _ => rfl) h
end Go.Proofs.Ytacncbkcnhlpcaa.Wl
namespace Go.Proofs.Ytacncbkcnhlpcaa.Wl
open Go.RowKit L T C
open Srt (placeI Known_any)
open Sgn (knownB)
set_option linter.unusedVariables false
set_option linter.unusedSimpArgs false
set_option maxRecDepth 100000

def idxV : List Vr → ByteArray → Nat
  | [], _ => 0
  | v :: l, s => if (v.1.toList == s.toList) = true then 0 else idxV l s + 1
def posV (V : List Vr) (s : ByteArray) : Int := if idxV V s < V.length then (idxV V s : Int) else -1
theorem idxV_step {V : List Vr} {k : Nat} {v : Vr} (s : ByteArray) (h : V[k]? = some v) : idxV (V.drop k) s = if (v.1.toList == s.toList) = true then 0 else idxV (V.drop (k + 1)) s + 1 := by
  obtain ⟨hk, rfl⟩ := List.getElem?_eq_some_iff.1 h
  rw [List.drop_eq_getElem_cons hk, idxV]
theorem idx_sort (s : ByteArray) : ∀ V : List Vr, (∃ v, idxV V s < V.length ∧ V[idxV V s]? = some v ∧ sortV V s = some v.2) ∨ (idxV V s = V.length ∧ sortV V s = none)
  | [] => .inr ⟨rfl, by rw [sortV]⟩
  | v :: l => by
    rw [idxV, sortV]
    by_cases h : (v.1.toList == s.toList) = true
    · rw [if_pos h, if_pos h]; exact .inl ⟨v, by simp, rfl, rfl⟩
    · rw [if_neg h, if_neg h]
      rcases idx_sort s l with ⟨q, h3, h4, h5⟩ | ⟨h3, h4⟩
      · exact .inl ⟨q, by simp; omega, by simpa using h4, h5⟩
      · exact .inr ⟨by simp [h3], h4⟩
theorem pos_sort (s : ByteArray) (V : List Vr) : (∃ (k : Nat) (v : Vr), k < V.length ∧ posV V s = (k : Int) ∧ V[k]? = some v ∧ sortV V s = some v.2) ∨ (posV V s = -1 ∧ sortV V s = none) := by
  rcases idx_sort s V with ⟨p, h1, h2, h3⟩ | ⟨h1, h2⟩
  · exact .inl ⟨_, p, h1, by unfold posV; rw [if_pos h1], h2, h3⟩
  · exact .inr ⟨by unfold posV; rw [if_neg (by omega)], h2⟩
theorem sBool_l : sBool.toList = [66, 111, 111, 108] := by rw [ByteArray.toList_eq]; rfl
theorem sInt_l : sInt.toList = [73, 110, 116] := by rw [ByteArray.toList_eq]; rfl
/-- a block that holds a variable -/
def VBox (w : World) (g : Nat) (x y : ByteArray) : Prop := Sgn.Blk w g #[.string x, .string y] 64
theorem VBox.new (w : World) (x y : ByteArray) : VBox (w.alloc (.cells #[.string x, .string y] 64)) w.heap.size x y := Sgn.Blk.new w _ _
theorem VBox.two {w : World} {g : Nat} {x y : ByteArray} (h : VBox w g x y) : w.cell? ⟨g, 0, none⟩ = some (.string x) ∧ w.cell? ⟨g, 1, none⟩ = some (.string y) := ⟨Sgn.Blk.cell h 0, Sgn.Blk.cell h 1⟩
theorem VBox.b {w w' : World} {g : Nat} {x y : ByteArray} (h : VBox w g x y) (hb : Below w.heap.size w w') : VBox w' g x y := Sgn.Blk.belowAll h hb

theorem namedV (g : Nat) (s x y : ByteArray) (w : World) (hlt : g < w.heap.size) (hg : w.cell? ⟨g, 0, none⟩ = some (.string s)) :
    Calls Try.prog 51 #[.agg #[.string x, .string y], .pointer (some ⟨g, 0, none⟩)] w fun e w' => e = .returned (.bool (x.toList == s.toList)) ∧ Below w.heap.size w w' := by
  have F1 := VBox.new w x y
  have hB : Below w.heap.size w (w.alloc (.cells #[.string x, .string y] 64)) := bel_alloc (Below.refl _ _) _
  have g0 := (hB.cell (p := ⟨g, 0, none⟩) hlt).trans hg
  obtain ⟨W1, hW1⟩ : ∃ W1, w.alloc (.cells #[.string x, .string y] 64) = W1 := ⟨_, rfl⟩
  rw [hW1] at F1 hB g0
  obtain ⟨f0, f1⟩ := F1.two
  clear hg
  go_enter Try.func51, Try.ntmps51
  go_wp2
  go_ret
  exact ⟨rfl, hB⟩

set_option maxHeartbeats 2000000 in
theorem idxFuncV (g : Nat) (s : ByteArray) (b : Option Addr) (m d : Nat) (V : List Vr) (w : World) (hlt : g < w.heap.size) (hg : w.cell? ⟨g, 0, none⟩ = some (.string s)) (hG : IsV w b m V) (hm : m ≤ 1000000000) :
    Calls Try.prog 50 #[.slice b m d, .func (.func 51) #[] #[.pointer (some ⟨g, 0, none⟩)]] w fun e w' => e = .returned (.int .i64 (posV V s)) ∧ Below w.heap.size w w' := by
  have cu : ∀ (x y : ByteArray) (w' : World), Below w.heap.size w w' → Calls Try.prog 51 #[.agg #[.string x, .string y], .pointer (some ⟨g, 0, none⟩)] w' fun e w1 => e = .returned (.bool (x.toList == s.toList)) ∧ Below w'.heap.size w' w1 :=
    fun x y w' h => namedV g s x y w' (Nat.lt_of_lt_of_le hlt h.size) ((h.cell (p := ⟨g, 0, none⟩) hlt).trans hg)
  have hlen : V.length = m := hG.1.symm
  have hst : ∀ k (v : Vr), V[k]? = some v → idxV (V.drop k) s = if (v.1.toList == s.toList) = true then 0 else idxV (V.drop (k + 1)) s + 1 := fun k v h => idxV_step s h
  have he : ∀ k, m ≤ k → idxV (V.drop k) s = 0 := fun k h => by rw [List.drop_eq_nil_of_le (by rw [hlen]; exact h)]; rfl
  have h0 : idxV V s = idxV (V.drop 0) s := rfl
  have hR1 : ∀ k, k < m → idxV (V.drop 0) s = k → posV V s = (k : Int) := fun k h g => by unfold posV; rw [h0, g, if_pos (by rw [hlen]; exact h)]
  have hR2 : idxV (V.drop 0) s = m → posV V s = -1 := fun g => by unfold posV; rw [h0, g, if_neg (by rw [hlen]; omega)]
  generalize posV V s = R at *
  obtain ⟨F, hF⟩ : ∃ F : Nat → Nat, ∀ k, idxV (V.drop k) s = F k := ⟨_, fun _ => rfl⟩
  simp only [hF] at hst he hR1 hR2
  clear hF h0 hlen hg
  have H1 := Lib.hid hG
  have Hst := Lib.hid hst
  have He := Lib.hid he
  have HR1 := Lib.hid hR1
  have HR2 := Lib.hid hR2
  have Hu := Lib.hid cu
  clear hG hst he hR1 hR2 cu
  go_enter Try.func50, Try.ntmps50
  go_wp2
  go_loopw [8] (fun i wr0 => ∃ (wr : World) (k : Nat), wr = wr0 ∧ k ≤ m ∧ i = .int .i64 k ∧ Below w.heap.size w wr ∧ Hid (F 0 = k + F k)) (fun i _ => m - (intOf i).toNat)
  case atStart => exact ⟨w, 0, rfl, by omega, rfl, Below.refl _ _, Lib.hid (by omega)⟩
  case round =>
    obtain ⟨wr, k, rfl, hk, rfl, hB, hR⟩ := hrel
    by_cases hlt2 : k < m
    · obtain ⟨bb, o, v, rfl, hb, y1, y2, hx⟩ := (H1.out.below hB).at hlt2
      have hs1 := Hst.out k v hx
      obtain ⟨nm, rs⟩ := v
      have cx := Hu.out nm rs wr hB
      clear hx H1 Hst Hu
      have hk0 : 0 ≤ (k : Int) := by omega
      have hk1 : (k : Int) < (m : Int) := by omega
      simp only at hs1 y1 y2
      cases hu : nm.toList == s.toList with
      | true =>
        rw [hu] at cx
        have hnew : Hid (R = (k : Int)) := HR1.out k hlt2 (by rw [hR.out, hs1, if_pos hu]; rfl)
        clear hR hs1
        go_wp2_with (go_at_call 51; ((with_reducible refine cx.mono ?_); rintro e w1 ⟨rfl, hb1⟩))
        go_ret
        exact ⟨one hnew.out.symm, bel_trans hB hb1⟩
      | false =>
        rw [hu] at cx
        have hnew : Hid (F 0 = k + 1 + F (k + 1)) := by
          show _ = _
          rw [hR.out, hs1, if_neg (by simp [hu])]; omega
        clear hR hs1
        go_wp2_with (go_at_call 51; ((with_reducible refine cx.mono ?_); rintro e w1 ⟨rfl, hb1⟩))
        go_roundw
        case rel => exact ⟨_, k + 1, rfl, by omega, by go_num, bel_trans hB hb1, hnew⟩
        case measure => simp [intOf]; omega
    · have hnew : Hid (R = -1) := HR2.out (by rw [hR.out, He.out k (by omega)]; omega)
      clear hR
      go_wp2
      go_ret
      exact ⟨one hnew.out.symm, hB⟩

/-- what the query answers -/
def sortA (V : List Vr) (s : ByteArray) : Value := match sortV V s with
  | some x => .tuple #[.string x, .bool true]
  | none => .tuple #[.string ⟨#[]⟩, .bool false]
set_option maxHeartbeats 2000000 in
theorem sortsOf1_any (g : Nat) (s : ByteArray) (b : Option Addr) (m d : Nat) (V : List Vr) (w : World) (hlt : g < w.heap.size) (hg : w.cell? ⟨g, 0, none⟩ = some (.slice b m d)) (hG : IsV w b m V) (hm : m ≤ 1000000000) :
    Calls Try.prog 49 #[.string s, .pointer (some ⟨g, 0, none⟩)] w fun e w' => e = .returned (sortA V s) ∧ Below w.heap.size w w' := by
  obtain ⟨W1, hW1⟩ : ∃ W1, w.alloc (.cells #[.string s] 9) = W1 := ⟨_, rfl⟩
  have hB1 : Below w.heap.size w W1 := by rw [← hW1]; exact bel_alloc (Below.refl _ _) _
  have c1 : W1.cell? ⟨w.heap.size, 0, none⟩ = some (.string s) := by rw [← hW1]; exact Sgn.Blk.cell (Sgn.Blk.new w #[.string s] 9) 0
  have hl1 : W1.heap.size = w.heap.size + 1 := by rw [← hW1]; simp
  have cI := idxFuncV w.heap.size s b m d V W1 (by omega) c1 (hG.below hB1) hm
  have g1 := (hB1.cell (p := ⟨g, 0, none⟩) hlt).trans hg
  have hlt1 : g < W1.heap.size := by omega
  have hmf : ∀ (fn : Fn) (first cap : Array Value) (w : World), (Instr.makeFunc fn first cap).run Try.prog w = .ok (.func fn first cap) w := fun _ _ _ _ => rfl
  rcases pos_sort s V with ⟨k, v, hk, hp, hv, hs⟩ | ⟨hp, hs⟩
  · have hkm : k < m := by rw [hG.1]; exact hk
    obtain ⟨bb, o, v', rfl, hb, y1, y2, hx⟩ := (hG.below hB1).at hkm
    have hvv : v' = v := Option.some.inj (hx.symm.trans hv)
    subst hvv
    obtain ⟨nm, rs⟩ := v'
    have hA : sortA V s = .tuple #[.string rs, .bool true] := by unfold sortA; rw [hs]
    rw [hA]
    rw [hp] at cI
    have hk0 : 0 ≤ (k : Int) := by omega
    have hk1 : (k : Int) < (m : Int) := by omega
    simp only at y1 y2
    clear hA hp hv hs hx hG hk hg
    have HB1 := Lib.hid hB1
    clear hB1
    go_enter Try.func49, Try.ntmps49
    go_wp2_with (go_at_call 50; ((with_reducible refine cI.mono ?_); rintro e w2 ⟨rfl, hb2⟩; have g2 := (hb2.cell (p := ⟨g, 0, none⟩) hlt1).trans g1; have z1 := (hb2.cell hb).trans y1; have z2 := (hb2.cell hb).trans y2))
    simp [bodyPost, results, Try.results49, go_sem]
    exact bel_trans HB1.out hb2
  · have hA : sortA V s = .tuple #[.string ⟨#[]⟩, .bool false] := by unfold sortA; rw [hs]
    rw [hA]
    rw [hp] at cI
    clear hA hp hs hG hg
    have HB1 := Lib.hid hB1
    clear hB1
    go_enter Try.func49, Try.ntmps49
    go_wp2_with (go_at_call 50; ((with_reducible refine cI.mono ?_); rintro e w2 ⟨rfl, hb2⟩))
    simp [bodyPost, results, Try.results49, go_sem]
    exact bel_trans HB1.out hb2
theorem sortsOf_any (b : Option Addr) (m d : Nat) (w : World) :
    Calls Try.prog 28 #[.slice b m d] w fun e w' => e = .returned (.func (.func 49) #[] #[.pointer (some ⟨w.heap.size, 0, none⟩)]) ∧ w.alloc (.cells #[.slice b m d] 26) = w' := by
  have hmf : ∀ (fn : Fn) (first cap : Array Value) (w : World), (Instr.makeFunc fn first cap).run Try.prog w = .ok (.func fn first cap) w := fun _ _ _ _ => rfl
  go_enter Try.func28, Try.ntmps28
  go_wp2
  go_ret
  exact ⟨rfl, rfl⟩
set_option maxHeartbeats 2000000 in
theorem ranges_any (a : Option Addr) (n c : Nat) (S : List ByteArray) (b : Option Addr) (m d : Nat) (s : ByteArray) (w : World) (hS : IsS w a n S) (hn : n ≤ 1000000000) :
    Calls Try.prog 41 #[.agg #[.slice a n c, .slice b m d], .string s] w fun e w' => e = .returned (.bool (rangeB S s)) ∧ Below w.heap.size w w' := by
  obtain ⟨W1, hW1⟩ : ∃ W1, w.alloc (.cells #[.slice a n c, .slice b m d] 25) = W1 := ⟨_, rfl⟩
  have hB1 : Below w.heap.size w W1 := by rw [← hW1]; exact bel_alloc (Below.refl _ _) _
  have F1 := Sgn.Blk.new w #[.slice a n c, .slice b m d] 25
  rw [hW1] at F1
  have f0 : W1.cell? ⟨w.heap.size, 0, none⟩ = some (.slice a n c) := Sgn.Blk.cell F1 0
  have f1 : W1.cell? ⟨w.heap.size, 1, none⟩ = some (.slice b m d) := Sgn.Blk.cell F1 1
  have cK := Known_any a n c S s W1 (hS.below hB1) hn
  have hR : rangeB S s = (decide (0 ≤ placeI S s) && !(s.toList == [66, 111, 111, 108])) := by unfold rangeB knownB; rw [sBool_l]
  rw [hR]
  clear F1 hS hR
  generalize decide (0 ≤ placeI S s) = K at *
  have HB1 := Lib.hid hB1
  clear hB1
  cases h1 : s.toList == [66, 111, 111, 108] <;> cases K
  all_goals
    first | (have g1 : (s.toList = [66, 111, 111, 108]) = False := by simpa using h1) | (have g1 : (s.toList = [66, 111, 111, 108]) = True := by simpa using h1)
    go_enter Try.func41, Try.ntmps41
    go_wp2_with (go_at_call 76; ((with_reducible refine cK.mono ?_); rintro e w2 ⟨rfl, hb2⟩))
    go_ret
    exact ⟨rfl, bel_trans HB1.out hb2⟩
end Go.Proofs.Ytacncbkcnhlpcaa.Wl
