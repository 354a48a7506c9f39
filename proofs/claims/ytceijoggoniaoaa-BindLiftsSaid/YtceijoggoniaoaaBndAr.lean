/-
  What is proved: an argument that is an array of two ints reads as two numbers.
-/
import Derived.Test.YtceijoggoniaoaaBndA
import Derived.Test.YtceijoggoniaoaaTrmO
import Derived.OpenShut
namespace Go.Proofs.Ytceijoggoniaoaa.B
open Go.RowKit Go.Deep Go.ChangeShapes Go.WideShapes Go.Joins L T C
set_option linter.unusedVariables false

structure Arr2 where
  x : Int
  y : Int
def Arr2.val (z : Arr2) : Value := .agg #[.int .i64 z.x, .int .i64 z.y]
theorem array2A {cs : Array Value} (h : cs.size = 2) : ∃ c0 c1, cs = #[c0, c1] := by
  obtain ⟨l⟩ := cs
  match l, h with
  | [c0, c1], _ => exact ⟨c0, c1, rfl⟩
set_option maxRecDepth 100000 in
theorem arr2_open {H : Type} {enc : TypeId × Value → H} {W : World} {r : Reach} {b0 : Nat} {v : Value} {d : DataW H} {p : List MemPlace} (hv : Value.okWide Try.prog W r b0 37 v) (h : DataW.Trod enc Try.prog W 0 (fun _ => true) true 37 v d p) :
    ∃ z : Arr2, v = z.val ∧ True := by
  simp only [Value.okWide, Try.underlying37] at hv
  obtain ⟨cs, rfl, hsz, _⟩ := hv
  have hC : Try.prog.cellsOf 37 = 2 := by kernel_rfl
  have hI : Try.prog.cellsOf 3 = 1 := by kernel_rfl
  rw [hC] at hsz
  obtain ⟨c0, c1, rfl⟩ := array2A hsz
  obtain ⟨fuel, hf⟩ := h
  obtain ⟨xs, m, _, _, _, hl, hi⟩ := DataW.trod_array Try.underlying37 hf
  have h0 := hi 0 (by omega)
  have h1 := hi 1 (by omega)
  match xs, hl with
  | [y0, y1], _ =>
    rw [hI] at h0 h1
    have g0 : DataW.trod enc Try.prog W 0 (fun _ => true) true m 3 [c0] = some y0 := by simpa [Value.cells] using h0
    have g1 : DataW.trod enc Try.prog W 0 (fun _ => true) true m 3 [c1] = some y1 := by simpa [Value.cells] using h1
    obtain ⟨a, e0, _, _⟩ := DataW.trod_int (k := .i64) Try.underlying3 g0
    obtain ⟨b, e1, _, _⟩ := DataW.trod_int (k := .i64) Try.underlying3 g1
    obtain rfl : c0 = .int .i64 a := by simpa using e0
    obtain rfl : c1 = .int .i64 b := by simpa using e1
    exact ⟨⟨a, b⟩, rfl, trivial⟩
end Go.Proofs.Ytceijoggoniaoaa.B
