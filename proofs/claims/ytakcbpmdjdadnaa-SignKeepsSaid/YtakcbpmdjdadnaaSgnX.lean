/-
  What is proved: an argument that is a function, a signature, reads as one.
-/
import Derived.Test.YtakcbpmdjdadnaaSgnW
import Derived.Lib.SmallJoins
import Derived.Deep.Slices
import Derived.Deep.Fields
import Derived.ChangeArms
import Derived.OpenShut
namespace Go.Proofs.Ytakcbpmdjdadnaa.Sgn
open Go.RowKit Go.Deep Go.ChangeShapes Go.WideShapes Go.Joins L Srt
set_option linter.unusedVariables false

section
variable {H : Type} {enc : TypeId × Value → H} {W : World} {sp : Nat → Bool}
theorem strs_cell {v : Value} {fuel : Nat} {y : DataW H × List MemPlace} (h : DataW.trod enc Try.prog W 0 sp true fuel 22 [v] = some y) : ∃ A n c X, v = .slice A n c ∧ n ≤ 9223372036854775807 ∧ SlS W A n c X ∧ sizedS X := by
  rcases open_strings Try.underlying22 Try.underlying9 (by kernel_rfl) h with ⟨hcs, _⟩ | ⟨ad, len, cap, ss, hcs, _⟩
  · obtain rfl : v = .slice none 0 0 := by simpa using hcs
    obtain ⟨X, h1, h2, h3⟩ := strs_open (enc := enc) (W := W) (a := none) (n := 0) (c := 0) (d := y.1) (p := y.2) (sp := sp) ⟨fuel, by simpa [Value.cells] using h⟩
    exact ⟨_, _, _, X, rfl, h1, h2, h3⟩
  · obtain rfl : v = .slice (some ad) len cap := by simpa using hcs
    obtain ⟨X, h1, h2, h3⟩ := strs_open (enc := enc) (W := W) (a := some ad) (n := len) (c := cap) (d := y.1) (p := y.2) (sp := sp) ⟨fuel, by simpa [Value.cells] using h⟩
    exact ⟨_, _, _, X, rfl, h1, h2, h3⟩
theorem str_cell {v : Value} {fuel : Nat} {y : DataW H × List MemPlace} (h : DataW.trod enc Try.prog W 0 sp true fuel 9 [v] = some y) : ∃ s : ByteArray, v = .string s ∧ s.size ≤ 9223372036854775807 := by
  obtain ⟨s, e, _, hs⟩ := DataW.trod_string Try.underlying9 h
  exact ⟨s, by simpa using e, by unfold maxLen at hs; omega⟩
theorem fun_cells {v0 v1 v2 : Value} {n0 n1 n2 : Nat} {y0 y1 y2 : DataW H × List MemPlace} (g0 : DataW.trod enc Try.prog W 0 sp true n0 9 [v0] = some y0) (g1 : DataW.trod enc Try.prog W 0 sp true n1 22 [v1] = some y1) (g2 : DataW.trod enc Try.prog W 0 sp true n2 9 [v2] = some y2) :
    ∃ f : Fm, v0 = .string f.name ∧ v1 = .slice f.a f.m f.c ∧ v2 = .string f.res ∧ FmV.ok f W := by
  obtain ⟨s, rfl, hs⟩ := str_cell g0
  obtain ⟨A, m, c, X, rfl, hm, hX, hz⟩ := strs_cell g1
  obtain ⟨r, rfl, hr⟩ := str_cell g2
  exact ⟨⟨s, A, m, c, X, r⟩, rfl, rfl, rfl, hX, hs, hr, by show X.length ≤ _; rw [← hX.1.1]; exact hm, hz⟩
theorem fun_open {r : Reach} {b0 : Nat} {v : Value} {d : DataW H} {p : List MemPlace} (hv : Value.okWide Try.prog W r b0 27 v) (h : DataW.Trod enc Try.prog W 0 sp true 27 v d p) :
    ∃ f : Fm, v = FmV.val f ∧ FmV.ok f W := by
  obtain ⟨v0, v1, v2, y0, y1, y2, n, rfl, _, _, g0, g1, g2⟩ := open_agg3 Try.underlying27 (by kernel_rfl) (by kernel_rfl) hv h
  obtain ⟨f, rfl, rfl, rfl, hf⟩ := fun_cells g0 g1 g2
  exact ⟨f, rfl, hf⟩
theorem one_cellF {a : Addr} {f0 : Nat} {x : DataW H × List MemPlace} {cs : List Value} {base : Nat}
    (hc : W.cells? base a 3 = some cs) (ht : DataW.trod enc Try.prog W 0 sp true f0 27 cs = some x) :
    ∃ f : Fm, W.cell? a = some (.string f.name) ∧ W.cell? (a.add 1) = some (.slice f.a f.m f.c) ∧ W.cell? (a.add 2) = some (.string f.res) ∧ FmV.ok f W := by
  obtain ⟨_, hl, hat⟩ := World.cells?_some hc
  obtain ⟨xs, n2, _, _, _, hxl, hf⟩ := DataW.trod_struct Try.underlying27 ht
  match cs, hl with
  | [c0, c1, c2], _ =>
    match xs, hxl with
    | [x0, x1, x2], _ =>
      have g0 : DataW.trod enc Try.prog W 0 sp true n2 9 (([c0, c1, c2].drop 0).take (Try.prog.cellsOf 9)) = some x0 := hf 0 _ rfl
      have g1 : DataW.trod enc Try.prog W 0 sp true n2 22 (([c0, c1, c2].drop 1).take (Try.prog.cellsOf 22)) = some x1 := hf 1 _ rfl
      have g2 : DataW.trod enc Try.prog W 0 sp true n2 9 (([c0, c1, c2].drop 2).take (Try.prog.cellsOf 9)) = some x2 := hf 2 _ rfl
      have z1 : Try.prog.cellsOf 22 = 1 := by kernel_rfl
      have z2 : Try.prog.cellsOf 9 = 1 := by kernel_rfl
      rw [z2] at g0 g2
      rw [z1] at g1
      obtain ⟨f, q0, q1, q2, hok⟩ := fun_cells g0 g1 g2
      subst q0 q1 q2
      exact ⟨f, by simpa [Addr.add] using hat 0 (by decide), hat 1 (by decide), hat 2 (by decide), hok⟩
theorem list_of {α : Type} {P : Nat → α → Prop} (n : Nat) (h : ∀ i, i < n → ∃ y, P i y) : ∃ Y : List α, Y.length = n ∧ ∀ i (hi : i < Y.length), P i Y[i] := by
  induction n with
  | zero => exact ⟨[], rfl, fun i hi => absurd hi (by simp)⟩
  | succ n ih =>
    obtain ⟨Y, hl, hY⟩ := ih (fun i hi => h i (by omega))
    obtain ⟨y, hy⟩ := h n (by omega)
    refine ⟨Y ++ [y], by simp [hl], fun i hi => ?_⟩
    by_cases hi2 : i < Y.length
    · rw [List.getElem_append_left hi2]; exact hY i hi2
    · have : i = Y.length := by simp at hi; omega
      subst this
      rw [List.getElem_append_right (Nat.le_refl _)]
      simp only [Nat.sub_self, List.getElem_cons_zero]
      rw [hl]; exact hy
theorem funs_cell (hsp : ∀ b, sp b = true) {v : Value} {fuel : Nat} {y : DataW H × List MemPlace} (h : DataW.trod enc Try.prog W 0 sp true fuel 23 [v] = some y) :
    ∃ A n c G, v = .slice A n c ∧ n ≤ 9223372036854775807 ∧ SlG W A n c G ∧ ∀ C ∈ cores G, szC C := by
  rcases open_slice Try.underlying23 h with ⟨hcs, _⟩ | ⟨ad, len, cap, m, n', D, Pl, hcs, _, hl, hmx, hm, _, hi⟩
  · obtain rfl : v = .slice none 0 0 := by simpa using hcs
    exact ⟨_, _, _, [], rfl, by omega, SlG.nul W, fun C hC => absurd hC (by simp [cores])⟩
  · obtain rfl : v = .slice (some ad) len cap := by simpa using hcs
    rw [hsp, if_pos rfl] at hm
    have hC : Try.prog.cellsOf 27 = 3 := by kernel_rfl
    obtain ⟨Y, hY, hall⟩ := list_of len (P := fun i (f : Fm) => W.cell? (ad.add (i * 3)) = some (.string f.name) ∧ W.cell? ((ad.add (i * 3)).add 1) = some (.slice f.a f.m f.c) ∧ W.cell? ((ad.add (i * 3)).add 2) = some (.string f.res) ∧ FmV.ok f W) (fun i hin => by
      obtain ⟨cs', h1, h2⟩ := hi i (by omega)
      rw [hC] at h1
      exact one_cellF h1 h2)
    refine ⟨_, _, _, Y, rfl, by unfold maxLen at hmx; omega, ⟨⟨hY.symm, fun hn => ?_, fun f hf => ?_⟩, hl, fun h => by cases h⟩, fun C hC' => ?_⟩
    · obtain ⟨b, off, spot⟩ := ad
      have hspot : spot = none := by simpa [Addr.add] using World.cell?_spot (hall 0 (by omega)).1
      subst hspot
      refine ⟨b, off, rfl, ?_, fun i hi2 => ?_⟩
      · have := (hall 0 (by omega)).1
        rw [Go.WideShapes.add_plain] at this
        exact World.block_lt_of_cell? _ _ this
      · obtain ⟨h1, h2, h3, _⟩ := hall i hi2
        rw [Go.WideShapes.add_plain] at h1 h2 h3
        rw [Go.WideShapes.add_plain] at h2 h3
        exact ⟨h1, h2, h3⟩
    · obtain ⟨i, hi2, rfl⟩ := List.mem_iff_getElem.1 hf
      exact (hall i hi2).2.2.2.1
    · obtain ⟨f, hf, rfl⟩ := List.mem_map.1 hC'
      obtain ⟨i, hi2, rfl⟩ := List.mem_iff_getElem.1 hf
      exact (hall i hi2).2.2.2.2
theorem sign_open (hsp : ∀ b, sp b = true) {r : Reach} {b0 : Nat} {v : Value} {d : DataW H} {p : List MemPlace} (hv : Value.okWide Try.prog W r b0 25 v) (h : DataW.Trod enc Try.prog W 0 sp true 25 v d p) :
    ∃ z : SgV, v = z.val ∧ z.ok W := by
  obtain ⟨v0, v1, y0, y1, n, rfl, _, _, g0, g1⟩ := open_agg2 Try.underlying25 (by kernel_rfl) (by kernel_rfl) hv h
  obtain ⟨A, k, c, S, rfl, hk, hS, hz⟩ := strs_cell g0
  obtain ⟨B, m, d, G, rfl, hm, hG, hzG⟩ := funs_cell hsp g1
  exact ⟨⟨A, k, c, S, B, m, d, G⟩, rfl, hS, hk, hz, hG, hm, hzG⟩
theorem sign_open_all {r : Reach} {b0 : Nat} {v : Value} {d : DataW H} {p : List MemPlace} (hv : Value.okWide Try.prog W r b0 25 v) (h : DataW.Trod enc Try.prog W 0 (fun _ => true) true 25 v d p) :
    ∃ z : SgV, v = z.val ∧ z.ok W := sign_open (fun _ => rfl) hv h
theorem fun_open_all {r : Reach} {b0 : Nat} {v : Value} {d : DataW H} {p : List MemPlace} (hv : Value.okWide Try.prog W r b0 27 v) (h : DataW.Trod enc Try.prog W 0 (fun _ => true) true 27 v d p) :
    ∃ f : Fm, v = FmV.val f ∧ FmV.ok f W := fun_open hv h
end
end Go.Proofs.Ytakcbpmdjdadnaa.Sgn
