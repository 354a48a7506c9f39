/-
  What is proved: an argument that is a slice of faults reads as a list of pairs.
-/
import Derived.Test.YthhdhhebelmimaaFltP
import Derived.Deep.Slices
import Derived.Deep.Fields
import Derived.ChangeArms
import Derived.OpenShut
namespace Go.Proofs.Ythhdhhebelmimaa.Flt
open Go.RowKit Go.Deep Go.ChangeShapes Go.WideShapes
set_option linter.unusedVariables false

theorem list_of {α : Type} {P : Nat → α → Prop} (n : Nat) (h : ∀ i, i < n → ∃ y, P i y) : ∃ Y : List α, Y.length = n ∧ ∀ i (hi : i < Y.length), P i Y[i] := by
  induction n with
  | zero => exact ⟨[], rfl, fun i hi => absurd hi (by simp)⟩
  | succ n ih =>
    obtain ⟨Y, hl, hY⟩ := ih (fun i hi => h i (by omega))
    obtain ⟨y, hy⟩ := h n (by omega)
    refine ⟨Y ++ [y], by simp [hl], fun i hi => ?_⟩
    by_cases hi2 : i < Y.length
    · rw [List.getElem_append_left hi2]; exact hY i hi2
    · have : i = Y.length := by simp at hi; omega
      subst this
      rw [List.getElem_append_right (Nat.le_refl _)]
      simp only [Nat.sub_self, List.getElem_cons_zero]
      rw [hl]; exact hy
theorem one_cell {H : Type} {enc : TypeId × Value → H} {W : World} {a : Addr} {f0 : Nat} {x : DataW H × List MemPlace} {cs : List Value} {base : Nat} {sp : Nat → Bool} {held : Bool}
    (hc : W.cells? base a 2 = some cs) (ht : DataW.trod enc Try.prog W base sp held f0 30 cs = some x) :
    ∃ y : Int × Int, W.cell? a = some (.int .i64 y.1) ∧ W.cell? (a.add 1) = some (.int .i64 y.2) := by
  obtain ⟨_, hl, hat⟩ := World.cells?_some hc
  obtain ⟨xs, n2, _, _, _, hxl, hf⟩ := DataW.trod_struct Try.underlying30 ht
  match cs, hl with
  | [c0, c1], _ =>
    match xs, hxl with
    | [x0, x1], _ =>
      have g0 : DataW.trod enc Try.prog W base sp held n2 28 (([c0, c1].drop 0).take (Try.prog.cellsOf 28)) = some x0 := hf 0 _ rfl
      have g1 : DataW.trod enc Try.prog W base sp held n2 3 (([c0, c1].drop 1).take (Try.prog.cellsOf 3)) = some x1 := hf 1 _ rfl
      have z1 : Try.prog.cellsOf 28 = 1 := by kernel_rfl
      have z2 : Try.prog.cellsOf 3 = 1 := by kernel_rfl
      rw [z1] at g0
      rw [z2] at g1
      obtain ⟨k0, e0, _, _⟩ := DataW.trod_int (k := .i64) Try.underlying28 g0
      obtain ⟨k1, e1, _, _⟩ := DataW.trod_int (k := .i64) Try.underlying3 g1
      have q0 : c0 = .int .i64 k0 := by simpa using e0
      have q1 : c1 = .int .i64 k1 := by simpa using e1
      subst q0 q1
      exact ⟨(k0, k1), by simpa [Addr.add] using hat 0 (by decide), hat 1 (by decide)⟩
theorem faults_open {H : Type} {enc : TypeId × Value → H} {W : World} {a : Option Addr} {n c : Nat} {d : DataW H} {p : List MemPlace} {sp : Nat → Bool} (hsp : ∀ b, sp b = true)
    (h : DataW.Trod enc Try.prog W 0 sp true 27 (.slice a n c) d p) : ∃ Y, n ≤ 9223372036854775807 ∧ IsF W a n Y := by
  obtain ⟨fuel, hf⟩ := h
  rcases open_slice Try.underlying27 hf with ⟨hcs, _⟩ | ⟨ad, len, cap, m, n', D, Pl, hcs, _, hl, hmx, hm, _, hi⟩
  · simp [Value.cells] at hcs
    obtain ⟨rfl, rfl, rfl⟩ := hcs
    exact ⟨[], by omega, rfl, fun h => absurd h (by simp)⟩
  · simp [Value.cells] at hcs
    obtain ⟨rfl, rfl, rfl⟩ := hcs
    rw [hsp, if_pos rfl] at hm
    have hC : Try.prog.cellsOf 30 = 2 := by kernel_rfl
    obtain ⟨Y, hY, hall⟩ := list_of n (P := fun i (y : Int × Int) => W.cell? (ad.add (i * 2)) = some (.int .i64 y.1) ∧ W.cell? ((ad.add (i * 2)).add 1) = some (.int .i64 y.2)) (fun i hin => by
      obtain ⟨cs', h1, h2⟩ := hi i (by omega)
      rw [hC] at h1
      exact one_cell h1 h2)
    refine ⟨Y, by unfold maxLen at hmx; omega, hY.symm, fun hn => ?_⟩
    obtain ⟨b, off, spot⟩ := ad
    have hspot : spot = none := by simpa [Addr.add] using World.cell?_spot (hall 0 (by omega)).1
    subst hspot
    refine ⟨b, off, rfl, ?_, fun i hi2 => ?_⟩
    · have := (hall 0 (by omega)).1
      rw [Go.WideShapes.add_plain] at this
      exact World.block_lt_of_cell? _ _ this
    · obtain ⟨h1, h2⟩ := hall i hi2
      rw [Go.WideShapes.add_plain] at h1 h2
      rw [Go.WideShapes.add_plain] at h2
      exact ⟨h1, h2⟩
theorem faults_open_all {H : Type} {enc : TypeId × Value → H} {W : World} {a : Option Addr} {n c : Nat} {d : DataW H} {p : List MemPlace}
    (h : DataW.Trod enc Try.prog W 0 (fun _ => true) true 27 (.slice a n c) d p) : ∃ Y, n ≤ 9223372036854775807 ∧ IsF W a n Y := faults_open (fun _ => rfl) h
end Go.Proofs.Ythhdhhebelmimaa.Flt
