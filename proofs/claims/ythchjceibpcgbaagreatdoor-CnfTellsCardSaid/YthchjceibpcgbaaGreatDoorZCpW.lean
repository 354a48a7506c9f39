/-
  What is proved: a builder of texts of the call's own; what WriteString and String of it do.
-/
import Derived.Test.YthchjceibpcgbaaGreatDoorZCnE
import Derived.Test.YthchjceibpcgbaaGreatDoorShelf
import Derived.Shelf.Strings.Builder1
namespace Go.Proofs.YthchjceibpcgbaaGreatDoor.Cn
open Go.RowKit L Lt
set_option linter.unusedVariables false
set_option linter.unusedSimpArgs false
set_option maxRecDepth 100000

/-- the library's numbers of what WriteString reaches, at this program -/
def ren166 : Go.Shelf.Ren := ⟨fun | 166 => 40 | 240 => 74 | 276 => 92 | n => n, fun | 0 => 0 | 3 => 3 | 4 => 4 | 9 => 9 | 20 => 20 | 37 => 64 | 70 => 63 | 72 => 66 | 75 => 68 | 164 => 106 | 5 => 5 | 80 => 72 | n => n, fun | n => n⟩
theorem lays166 : Go.Proofs.Lays.n166 Tryz.prog ren166 := {
  mixed := by kernel_rfl
  f166 := Tryz.func40.trans (congrArg some (by kernel_rfl))
  f240 := Tryz.func74.trans (congrArg some (by kernel_rfl))
  f276 := Tryz.func92.trans (congrArg some (by kernel_rfl))
  t0 := Tryz.underlying0
  a0 := Tryz.isAgg0
  z0 := Tryz.sizeOf0
  v0 := Tryz.zeroValue0
  t3 := Tryz.underlying3
  a3 := Tryz.isAgg3
  z3 := Tryz.sizeOf3
  v3 := Tryz.zeroValue3
  t4 := Tryz.underlying4
  a4 := Tryz.isAgg4
  z4 := Tryz.sizeOf4
  v4 := Tryz.zeroValue4
  t9 := Tryz.underlying9
  a9 := Tryz.isAgg9
  z9 := Tryz.sizeOf9
  v9 := Tryz.zeroValue9
  t20 := Tryz.underlying20
  a20 := Tryz.isAgg20
  z20 := Tryz.sizeOf20
  v20 := Tryz.zeroValue20
  t37 := Tryz.underlying64
  a37 := Tryz.isAgg64
  z37 := Tryz.sizeOf64
  v37 := Tryz.zeroValue64
  t70 := Tryz.underlying63
  a70 := Tryz.isAgg63
  z70 := Tryz.sizeOf63
  v70 := Tryz.zeroValue63
  t72 := Tryz.underlying66
  a72 := Tryz.isAgg66
  z72 := Tryz.sizeOf66
  v72 := Tryz.zeroValue66
  t75 := Tryz.underlying68
  a75 := Tryz.isAgg68
  z75 := Tryz.sizeOf68
  v75 := Tryz.zeroValue68
  t164 := Tryz.underlying106
  a164 := Tryz.isAgg106
  z164 := Tryz.sizeOf106
  v164 := Tryz.zeroValue106 }
theorem extra166 : Builder.Extra Tryz.prog ren166 := {
  sizeBuilder := by kernel_rfl
  liesBuilder := by kernel_rfl
  t5 := Tryz.underlying5
  a5 := Tryz.isAgg5
  z5 := Tryz.sizeOf5
  v5 := Tryz.zeroValue5
  infoByte := by kernel_rfl
  cellsByte := by kernel_rfl
  sizeByte := by kernel_rfl
  neB5 := by decide }
/-! a builder of the call's own -/
abbrev IsB (B b : Nat) (s : ByteArray) (w : World) : Prop := Lib.IsBuilder 66 5 B b (Lib.byteCells s.data.toList) w
theorem at_below {B b : Nat} {p : Value} {bs : List Value} {w w' : World} (h : Lib.BuilderAt 66 5 B b p bs w) (hb : Below w.heap.size w w') : Lib.BuilderAt 66 5 B b p bs w' := by
  obtain ⟨hB, v, hg, ho, hne⟩ := h
  have hlt := (Array.getElem?_eq_some_iff.1 hg).1
  refine ⟨hB, v, (hb.block b hlt).trans hg, ⟨ho.1, ?_⟩, hne⟩
  rcases ho.2 with h0 | ⟨g, cap, cur, e, h1, h2, h3⟩
  · exact .inl h0
  · exact .inr ⟨g, cap, cur, e, h1, (hb.block g (Array.getElem?_eq_some_iff.1 h2).1).trans h2, h3⟩
theorem IsB.bl {B b : Nat} {s : ByteArray} {w w' : World} (h : IsB B b s w) (hb : Below w.heap.size w w') : IsB B b s w' :=
  h.elim (fun h => .inl (at_below h hb)) (fun h => .inr (at_below h hb))
theorem isB_new (w : World) : IsB w.heap.size w.heap.size ⟨#[]⟩ (w.alloc (.cells #[.pointer none, .slice none 0 0] 66)) := Lib.fresh_isBuilder 66 5 w
theorem bcells_app (s t : ByteArray) : Lib.byteCells s.data.toList ++ Lib.strCells t = Lib.byteCells (s ++ t).data.toList := by
  show Lib.byteCells s.data.toList ++ Lib.byteCells t.data.toList = _
  unfold Lib.byteCells
  rw [← List.map_append]; congr 1
theorem bcells_len (s : ByteArray) : (Lib.byteCells s.data.toList).length = s.size := by
  unfold Lib.byteCells; rw [List.length_map]; show _ = Array.size _; simp
theorem write_any (B b : Nat) (s t : ByteArray) (w : World) (h : IsB B b s w) (hlen : s.size + t.size ≤ 140737488355328) (hBw : B ≤ w.heap.size) :
    Calls Tryz.prog 40 #[.pointer (some ⟨b, 0, none⟩), .string t] w fun e w' => e = .returned (.tuple #[.int .i64 t.size, .nilIface]) ∧ IsB B b (s ++ t) w' ∧ Below B w w' :=
  (Any.Builder_WriteString lays166 extra166 B b (Lib.byteCells s.data.toList) t w h (by rw [bcells_len]; exact hlen) hBw).mono fun e w' ⟨he, h1, h2⟩ => ⟨he, by
    rw [bcells_app] at h1; exact Or.inr h1, h2⟩
theorem string_any (B b : Nat) (s : ByteArray) (w : World) (h : IsB B b s w) (hBw : B ≤ w.heap.size) :
    Calls Tryz.prog 42 #[.pointer (some ⟨b, 0, none⟩)] w fun e w' => e = .returned (.string s) ∧ Below B w w' :=
  Tryz.Builder_String_any B b s.data.toList w h hBw

end Go.Proofs.YthchjceibpcgbaaGreatDoor.Cn
