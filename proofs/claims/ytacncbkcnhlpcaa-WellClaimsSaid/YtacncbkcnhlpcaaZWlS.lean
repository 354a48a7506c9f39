/-
  What is proved: the sorts of some terms, by package well's checker, where each term's is known.
-/
import Derived.Test.YtacncbkcnhlpcaaZWlQ
import Derived.Test.YtacncbkcnhlpcaaBL
import Derived.Deep.RegionHeld3
namespace Go.Proofs.Ytacncbkcnhlpcaa.Wl
open Go.RowKit L T C
open Sgn (SlG Fm Core cores)
set_option linter.unusedVariables false
set_option linter.unusedSimpArgs false
set_option maxRecDepth 100000

/-- what a checker holds: a signature, variables, binders -/
structure Ev where
  a : Option Addr
  n : Nat
  c : Nat
  b : Option Addr
  m : Nat
  d : Nat
  g : Nat
  vp : Option Addr
  vn : Nat
  vc : Nat
  p : Option Addr
  q : Nat
  e : Nat
  G : List Fm
  V : List Vr
  B : List ByteArray
def Ev.K (E : Ev) : List Core := cores E.G
abbrev Ev.val (E : Ev) : Value := .agg #[.slice E.a E.n E.c, .slice E.b E.m E.d, fnV E.g, .slice E.p E.q E.e]
def Ev.ok (E : Ev) (w : World) : Prop :=
  SlG w E.b E.m E.d E.G ∧ E.m ≤ 1000000 ∧ (∀ C ∈ cores E.G, C.2.1.length ≤ 1000000) ∧ E.g < w.heap.size ∧ w.cell? ⟨E.g, 0, none⟩ = some (.slice E.vp E.vn E.vc) ∧ IsV w E.vp E.vn E.V ∧ E.vn ≤ 1000000 ∧ IsS w E.p E.q E.B ∧ E.q ≤ 1000000
theorem Ev.ok.b {E : Ev} {w w' : World} (h : E.ok w) (hb : Below w.heap.size w w') : E.ok w' :=
  ⟨h.1.below hb, h.2.1, h.2.2.1, Nat.lt_of_lt_of_le h.2.2.2.1 hb.size, (hb.cell (p := ⟨E.g, 0, none⟩) h.2.2.2.1).trans h.2.2.2.2.1, h.2.2.2.2.2.1.below hb, h.2.2.2.2.2.2.1, h.2.2.2.2.2.2.2.1.below hb, h.2.2.2.2.2.2.2.2⟩
/-- what a check of a term answers, below a path -/
def TmP (R : Wr) (X : List Int) (w : World) (e : Ending) (w' : World) : Prop :=
  ∃ A N C, e = .returned (.tuple #[.string R.so, .slice A N C, .int .i64 R.e]) ∧ SlI w' A N C (if R.e = 0 then [] else X ++ R.way) ∧ Below w.heap.size w w'
def TermOk (t : Tm) : Prop := ∀ (E : Ev) (pa : Option Addr) (pn pc : Nat) (X : List Int) (ta : Option Addr) (tn tc : Nat) (w : World), E.ok w → partE t = 0 → pn + size t ≤ 1000000 → SlI w pa pn pc X → ArW w t ta tn tc →
  Calls Try.prog 29 #[E.val, .agg #[.int .i64 (opT t), .string (nameT t), .int .i64 (numT t), .slice ta tn tc], .slice pa pn pc] w (TmP (wlT E.K E.V E.B t) X w)
def TsP (R : Int × List Int × List ByteArray) (X : List Int) (w : World) (e : Ending) (w' : World) : Prop :=
  ∃ A' n' c' A N C, e = .returned (.tuple #[.slice A' n' c', .slice A N C, .int .i64 R.1]) ∧ SlI w' A N C (if R.1 = 0 then [] else X ++ R.2.1) ∧ (R.1 = 0 → SlS w' A' n' c' R.2.2) ∧ Below w.heap.size w w'
/-- a row that is filled from its head on -/
def RowK (w : World) (g : Nat) (D : List ByteArray) (K : List Value) : Prop := L.Blk w g (vsS D ++ K.drop D.length).toArray 9
theorem RowK.set {w : World} {g : Nat} {D : List ByteArray} {K : List Value} (h : RowK w g D K) (hl : D.length < K.length) (s : ByteArray) : RowK (w.setCell ⟨g, D.length, none⟩ (.string s)) g (D ++ [s]) K := by
  have h2 := L.Blk.set h D.length (.string s)
  have e : ((vsS D ++ K.drop D.length).toArray).setIfInBounds D.length (.string s) = (vsS (D ++ [s]) ++ K.drop (D ++ [s]).length).toArray := by
    apply Array.ext'
    rw [Array.toList_setIfInBounds]
    show (vsS D ++ K.drop D.length).set _ _ = _
    rw [List.set_append_right _ _ (by rw [vsS_len]; exact Nat.le_refl _), vsS_len, Nat.sub_self, List.drop_eq_getElem_cons hl, List.set_cons_zero]
    simp [vsS]
  rw [e] at h2
  exact h2
theorem RowK.slS {w : World} {g : Nat} {D : List ByteArray} {K : List Value} (h : RowK w g D K) (hl : K.length = D.length) : SlS w (some ⟨g, 0, none⟩) D.length D.length D := by
  refine ⟨⟨rfl, fun _ => ⟨g, 0, rfl, L.Blk.lt h, fun k hk => ?_⟩⟩, Nat.le_refl _, fun h => by cases h⟩
  rw [Nat.zero_add]
  refine (L.Blk.cell h k).trans ?_
  have hk2 : k < (vsS D).length := by rw [vsS_len]; exact hk
  rw [List.getElem?_toArray, List.getElem?_append_left hk2]
  simp [vsS, hk]
theorem mk_row (n : Nat) (hn : n ≤ 1000000) : ∃ K : List Value, K.length = n ∧ ∀ w : World, (Instr.makeSlice 22 (.int .i64 (n : Int)) (.int .i64 (n : Int))).run Try.prog w = .ok (.slice (some ⟨w.heap.size, 0, none⟩) n n) (w.alloc (.cells K.toArray 9)) := by
  obtain ⟨i0, hi, hz0, hz1, hz2⟩ := info_parts strI
  refine ⟨(madeCells (Value.string ⟨#[]⟩).cells (n * 1)).toList, by simp [madeCells], fun w => ?_⟩
  have hr := run_make (P := Try.prog) w 22 9 i0 _ Try.underlying22 hi hz0 .i64 .i64 n n (by omega) (by omega) (by rw [hz2]; omega) (by omega)
  simp only [Int.toNat_natCast, hz1] at hr
  exact hr
end Go.Proofs.Ytacncbkcnhlpcaa.Wl
