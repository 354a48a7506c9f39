/-
  What is proved: the chapter's example, in plain words; the boxes and rows that it makes.
-/
import Derived.Test.YtokkafekdaniaaaBndQ
import Derived.Test.YtokkafekdaniaaaBndJ
import Derived.Test.YtokkafekdaniaaaClmQ
import Derived.Test.YtokkafekdaniaaaClmX
namespace Go.Proofs.Ytokkafekdaniaaa.B
open Go.RowKit L T C
set_option linter.unusedVariables false
set_option linter.unusedSimpArgs false

def tX : Tm := .mk 1 ⟨#[120]⟩ 0 []
def tY : Tm := .mk 1 ⟨#[121]⟩ 0 []
def tC : Tm := .mk 3 ⟨#[99]⟩ 0 []
def tB : Tm := .mk 2 ⟨#[]⟩ 0 []
def exP : Cl := .mk 3 ⟨#[112]⟩ ⟨#[]⟩ [tX, tY] []
def exB : Cl := .mk 3 ⟨#[112]⟩ ⟨#[]⟩ [tB, tY] []
def exQ : Cl := .mk 3 ⟨#[112]⟩ ⟨#[]⟩ [tC, tY] []
theorem xy_ne : ¬ (⟨#[121]⟩ : ByteArray).toList = (⟨#[120]⟩ : ByteArray).toList := fun h => absurd (eqS_iff.1 (beq_iff_eq.2 h)) (by decide)
theorem close_ex : wkC (fClose ⟨#[120]⟩) 0 exP = exB := by
  simp [wkC, wks, wk, wkCs, fClose, exP, exB, tX, tY, tB, xy_ne]
theorem wrap0 : wrap64 0 = 0 := by unfold wrap64; omega
theorem open_ex : wkC (fOpen tC) 0 exB = exQ := by
  simp [wkC, wks, wk, wkCs, fOpen, fLift, exQ, exB, tC, tY, tB, wrap0]
theorem loose_ex : looseL exB = [0] := by
  rw [looseL_puts]
  simp [lsC, lsTs, lsT, lsCs, exB, tY, tB, puts, putL, insI, wrap0]
theorem all_ex : looseL (boundC 11 ⟨#[120]⟩ ⟨#[65]⟩ exP) = [] := by
  unfold boundC
  rw [close_ex, looseL_puts]
  simp [lsC, lsTs, lsT, lsCs, exB, tY, tB, puts, kin]
theorem eqC_self (t : Cl) : eqC t t = true := by rw [eqC_cmp, cmpC_self]; rfl
theorem eqT_self (t : Tm) : eqT t t = true := eqT_iff.2 rfl
theorem arLeaf (w : World) (o : Int) (s : ByteArray) (z : Int) : ArW w (.mk o s z []) none 0 0 := by
  unfold ArW; rw [Ar]; exact ⟨rfl, Nat.le_refl _, Nat.zero_le _, fun _ => rfl, fun h => absurd h (by omega)⟩
theorem row2T (Z : World) (o1 : Int) (s1 : ByteArray) (z1 : Int) (o2 : Int) (s2 : ByteArray) (z2 : Int) :
    TsW (Z.alloc (.cells #[.int .i64 o1, .string s1, .int .i64 z1, .slice none 0 0, .int .i64 o2, .string s2, .int .i64 z2, .slice none 0 0] 24)) (some ⟨Z.heap.size, 0, none⟩) 2 2 [.mk o1 s1 z1 [], .mk o2 s2 z2 []] := by
  have h := Blk.new Z #[.int .i64 o1, .string s1, .int .i64 z1, .slice none 0 0, .int .i64 o2, .string s2, .int .i64 z2, .slice none 0 0] 24
  refine ⟨rfl, Nat.le_refl _, by unfold maxLen; omega, (fun h => by cases h), fun _ => ⟨Z.heap.size, 0, rfl, Blk.lt h, ?_⟩⟩
  rw [Rw, Rw]
  exact ⟨⟨none, 0, 0, Blk.cell h 0, Blk.cell h 1, Blk.cell h 2, Blk.cell h 3, arLeaf _ _ _ _⟩, ⟨none, 0, 0, Blk.cell h 4, Blk.cell h 5, Blk.cell h 6, Blk.cell h 7, arLeaf _ _ _ _⟩, by rw [Rw]; trivial⟩
theorem arRow2 (Z : World) (o1 : Int) (s1 : ByteArray) (z1 : Int) (o2 : Int) (s2 : ByteArray) (z2 : Int) (o : Int) (s z : ByteArray) :
    ArWC (Z.alloc (.cells #[.int .i64 o1, .string s1, .int .i64 z1, .slice none 0 0, .int .i64 o2, .string s2, .int .i64 z2, .slice none 0 0] 24)) (.mk o s z [.mk o1 s1 z1 [], .mk o2 s2 z2 []] []) ⟨some ⟨Z.heap.size, 0, none⟩, 2, 2⟩ none 0 0 := by
  unfold ArWC; rw [ArC]
  exact ⟨row2T Z o1 s1 z1 o2 s2 z2, rfl, Nat.le_refl _, Nat.zero_le _, fun _ => rfl, fun h => absurd h (by omega)⟩
def put4 (w : World) (g : Nat) (v0 v1 v2 v3 : Value) : World := (((w.setCell ⟨g, 0, none⟩ v0).setCell ⟨g, 1, none⟩ v1).setCell ⟨g, 2, none⟩ v2).setCell ⟨g, 3, none⟩ v3
theorem box3t (w : World) (o : Int) (s : ByteArray) (o' : Int) (s' : ByteArray) (o2 : Int) (s2 : ByteArray) : ∃ Z W4, ((w.alloc (.cells #[.int .i64 0, .string ⟨#[]⟩, .int .i64 0, .slice none 0 0] 24)).alloc (.cells #[.int .i64 0, .string ⟨#[]⟩, .int .i64 0, .slice none 0 0] 24)).alloc (.cells #[.int .i64 0, .string ⟨#[]⟩, .int .i64 0, .slice none 0 0] 24) = Z ∧
    (TBox Z w.heap.size 0 ⟨#[]⟩ 0 none 0 0 ∧ TBox Z (w.heap.size + 1) 0 ⟨#[]⟩ 0 none 0 0 ∧ TBox Z (w.heap.size + 1 + 1) 0 ⟨#[]⟩ 0 none 0 0) ∧
    put4 (put4 (put4 Z w.heap.size (.int .i64 o) (.string s) (.int .i64 0) (.slice none 0 0)) (w.heap.size + 1) (.int .i64 o') (.string s') (.int .i64 0) (.slice none 0 0)) (w.heap.size + 1 + 1) (.int .i64 o2) (.string s2) (.int .i64 0) (.slice none 0 0) = W4 ∧
    (TBox W4 w.heap.size o s 0 none 0 0 ∧ TBox W4 (w.heap.size + 1) o' s' 0 none 0 0 ∧ TBox W4 (w.heap.size + 1 + 1) o2 s2 0 none 0 0) ∧ Below w.heap.size w W4 ∧ W4.heap.size = w.heap.size + 3 := by
  obtain ⟨Z, hZ, hb, hs, S, T, U⟩ := box3 w 0 ⟨#[]⟩ 0 none 0 0 0 ⟨#[]⟩ 0 none 0 0 0 ⟨#[]⟩ 0 none 0 0
  have p1 := TBox.put S o s 0 none 0 0
  have ot := fun (W : World) (g i : Nat) (v0 v1 v2 v3 : Value) (h : i ≠ g) => put_other W g i v0 v1 v2 v3 h
  refine ⟨Z, _, hZ, ⟨S, T, U⟩, rfl, ⟨?_, ?_, ?_⟩, put_below (put_below (put_below hb (Nat.le_refl _) _ _ _ _) (by omega) _ _ _ _) (by omega) _ _ _ _, ?_⟩
  · exact (ot _ _ _ _ _ _ _ (by omega)).trans ((ot _ _ _ _ _ _ _ (by omega)).trans p1)
  · exact (ot _ _ _ _ _ _ _ (by omega)).trans (TBox.put ((ot _ _ _ _ _ _ _ (by omega)).trans T : TBox _ _ _ _ _ _ _ _) o' s' 0 none 0 0)
  · exact TBox.put ((ot _ _ _ _ _ _ _ (by omega)).trans ((ot _ _ _ _ _ _ _ (by omega)).trans U) : TBox _ _ _ _ _ _ _ _) o2 s2 0 none 0 0
  · unfold put4; rw [put_size, put_size, put_size]; exact hs
theorem setCell_id {w : World} {g i : Nat} {cs : Array Value} {t : TypeId} {v : Value} (h : w.heap[g]? = some (.cells cs t (0, 0))) (hv : cs.setIfInBounds i v = cs) : w.setCell ⟨g, i, none⟩ v = w := by
  have e : (w.setCell ⟨g, i, none⟩ v).heap = w.heap := by
    apply Array.ext_getElem?
    intro k
    by_cases hk : k = g
    · subst hk
      rw [heap_setCell_same w k i cs t v h, hv, h]
    · exact heap_setCell_other w ⟨g, i, none⟩ k v hk
  have : w.setCell ⟨g, i, none⟩ v = { w with heap := (w.setCell ⟨g, i, none⟩ v).heap } := rfl
  rw [this, e]
theorem cbox_nil {w : World} {g : Nat} {o : Int} {s z : ByteArray} {k : SS} {a : Option Addr} {n c : Nat} (h : CBox w g o s z k a n c) : w.setCell ⟨g, 4, none⟩ (.slice a n c) = w := setCell_id h rfl
end Go.Proofs.Ytokkafekdaniaaa.B
