/-
  What is proved: an argument that is a term reads as a tree; a slice of terms as a list of trees.
-/
import Derived.Test.YtacncbkcnhlpcaaZLibF
import Derived.Lib.SmallJoins
import Derived.Deep.Slices
import Derived.Deep.Fields
import Derived.ChangeArms
import Derived.OpenShut
namespace Go.Proofs.Ytacncbkcnhlpcaa.T
open Go.RowKit Go.Deep Go.ChangeShapes Go.WideShapes Go.Joins L
set_option linter.unusedVariables false

section
variable {H : Type} {enc : TypeId × Value → H} {W : World} {sp : Nat → Bool}
theorem list_ofT {α : Type} {P : Nat → α → Prop} (n : Nat) (h : ∀ i, i < n → ∃ y, P i y) : ∃ Y : List α, Y.length = n ∧ ∀ i (hi : i < Y.length), P i Y[i] := by
  induction n with
  | zero => exact ⟨[], rfl, fun i hi => absurd hi (by simp)⟩
  | succ n ih =>
    obtain ⟨Y, hl, hY⟩ := ih (fun i hi => h i (by omega))
    obtain ⟨y, hy⟩ := h n (by omega)
    refine ⟨Y ++ [y], by simp [hl], fun i hi => ?_⟩
    by_cases hi2 : i < Y.length
    · rw [List.getElem_append_left hi2]; exact hY i hi2
    · have : i = Y.length := by simp at hi; omega
      subst this
      rw [List.getElem_append_right (Nat.le_refl _)]
      simp only [Nat.sub_self, List.getElem_cons_zero]
      rw [hl]; exact hy
/-- one term in four cells -/
def FourOk (W : World) (cs : List Value) (t : Tm) (a : Option Addr) (n c : Nat) : Prop := cs = [.int .i64 (opT t), .string (nameT t), .int .i64 (numT t), .slice a n c] ∧ ArW W t a n c
set_option maxRecDepth 100000 in
theorem four_of {v0 v1 v2 v3 : Value} {n0 n1 n2 n3 : Nat} {y0 y1 y2 y3 : DataW H × List MemPlace}
    (ih : ∀ m, m ≤ n3 → ∀ (cs : List Value) (x : DataW H × List MemPlace), DataW.trod enc Try.prog W 0 (fun _ => true) true m 33 cs = some x → ∃ t a n c, FourOk W cs t a n c)
    (g0 : DataW.trod enc Try.prog W 0 (fun _ => true) true n0 3 [v0] = some y0) (g1 : DataW.trod enc Try.prog W 0 (fun _ => true) true n1 9 [v1] = some y1)
    (g2 : DataW.trod enc Try.prog W 0 (fun _ => true) true n2 2 [v2] = some y2) (g3 : DataW.trod enc Try.prog W 0 (fun _ => true) true n3 31 [v3] = some y3) :
    ∃ t a n c, FourOk W [v0, v1, v2, v3] t a n c := by
  obtain ⟨o, e0, _, _⟩ := DataW.trod_int (k := .i64) Try.underlying3 g0
  obtain ⟨s, e1, _, _⟩ := DataW.trod_string Try.underlying9 g1
  obtain ⟨z, e2, _, _⟩ := DataW.trod_int (k := .i64) Try.underlying2 g2
  obtain rfl : v0 = .int .i64 o := by simpa using e0
  obtain rfl : v1 = .string s := by simpa using e1
  obtain rfl : v2 = .int .i64 z := by simpa using e2
  rcases DataW.trod_slice Try.underlying31 g3 with h0 | ⟨ad, len, cap, elems, rest, n, hn, hcs, _, _, hl, hmx, hlen, hi, _⟩
  · obtain rfl : v3 = .slice none 0 0 := by simpa using h0.1
    exact ⟨.mk o s z [], none, 0, 0, rfl, by unfold ArW; rw [Ar]; exact ⟨rfl, Nat.le_refl _, Nat.zero_le _, fun _ => rfl, fun h => absurd h (by omega)⟩⟩
  · obtain rfl : v3 = .slice (some ad) len cap := by simpa using hcs
    have hC : Try.prog.cellsOf 33 = 4 := by kernel_rfl
    obtain ⟨Y, hY, hall⟩ := list_ofT len (P := fun i (t : Tm) => ∃ a n c, W.cell? (ad.add (i * 4)) = some (.int .i64 (opT t)) ∧ W.cell? ((ad.add (i * 4)).add 1) = some (.string (nameT t)) ∧ W.cell? ((ad.add (i * 4)).add 2) = some (.int .i64 (numT t)) ∧ W.cell? ((ad.add (i * 4)).add 3) = some (.slice a n c) ∧ ArW W t a n c) (fun i hin => by
      have hq := hi i (by omega)
      rw [List.getElem?_eq_getElem (show i < elems.length by omega)] at hq
      obtain ⟨cs', h1, h2⟩ := Option.bind_eq_some_iff.1 hq
      rw [hC] at h1
      obtain ⟨_, hl2, hat⟩ := World.cells?_some h1
      obtain ⟨t, a, n', c, hf, hr⟩ := ih n (by omega) _ _ h2
      subst hf
      exact ⟨t, a, n', c, by simpa [Addr.add] using hat 0 (by simp), hat 1 (by simp), hat 2 (by simp), hat 3 (by simp), hr⟩)
    refine ⟨.mk o s z Y, some ad, len, cap, rfl, ?_⟩
    unfold ArW
    rw [Ar]
    refine ⟨hY.symm, hl, hmx, fun h => (by cases h), fun hn => ?_⟩
    obtain ⟨b, off, spot⟩ := ad
    have hspot : spot = none := by
      obtain ⟨_, _, _, h1, _⟩ := hall 0 (by omega)
      simpa [Addr.add] using World.cell?_spot h1
    subst hspot
    refine ⟨b, off, rfl, ?_, rw_at.2 fun i hi2 => ?_⟩
    · obtain ⟨_, _, _, h1, _⟩ := hall 0 (by omega)
      rw [Go.WideShapes.add_plain] at h1
      exact World.block_lt_of_cell? _ _ h1
    · obtain ⟨a, n, c, h1, h2, h3, h4, h5⟩ := hall i hi2
      rw [Go.WideShapes.add_plain] at h1 h2 h3 h4
      rw [Go.WideShapes.add_plain] at h2 h3 h4
      exact ⟨a, n, c, h1, h2, h3, h4, h5⟩
set_option maxRecDepth 100000 in
theorem term_cells : ∀ (N fuel : Nat), fuel ≤ N → ∀ (cs : List Value) (x : DataW H × List MemPlace), DataW.trod enc Try.prog W 0 (fun _ => true) true fuel 33 cs = some x → ∃ t a n c, FourOk W cs t a n c
  | 0, fuel, hf, cs, x, h => by
    obtain rfl : fuel = 0 := by omega
    simp [DataW.trod] at h
  | N + 1, fuel, hf, cs, x, h => by
    obtain ⟨xs, n, hn, _, hcl, hxl, hi⟩ := DataW.trod_struct Try.underlying33 h
    have hC : Try.prog.cellsOf 33 = 4 := by kernel_rfl
    rw [hC] at hcl
    match cs, hcl with
    | [c0, c1, c2, c3], _ =>
      match xs, hxl with
      | [x0, x1, x2, x3], _ =>
        have g0 : DataW.trod enc Try.prog W 0 (fun _ => true) true n 3 (([c0, c1, c2, c3].drop 0).take (Try.prog.cellsOf 3)) = some x0 := hi 0 _ rfl
        have g1 : DataW.trod enc Try.prog W 0 (fun _ => true) true n 9 (([c0, c1, c2, c3].drop 1).take (Try.prog.cellsOf 9)) = some x1 := hi 1 _ rfl
        have g2 : DataW.trod enc Try.prog W 0 (fun _ => true) true n 2 (([c0, c1, c2, c3].drop 2).take (Try.prog.cellsOf 2)) = some x2 := hi 2 _ rfl
        have g3 : DataW.trod enc Try.prog W 0 (fun _ => true) true n 31 (([c0, c1, c2, c3].drop 3).take (Try.prog.cellsOf 31)) = some x3 := hi 3 _ rfl
        have z1 : Try.prog.cellsOf 2 = 1 := by kernel_rfl
        have z2 : Try.prog.cellsOf 9 = 1 := by kernel_rfl
        have z3 : Try.prog.cellsOf 31 = 1 := by kernel_rfl
        have z0 : Try.prog.cellsOf 3 = 1 := by kernel_rfl
        rw [z0] at g0
        rw [z1] at g2
        rw [z2] at g1
        rw [z3] at g3
        exact four_of (fun m hm cs' x' h' => term_cells N m (by omega) cs' x' h') g0 g1 g2 g3

/-- a term's value and what it reads as -/
structure TmV where
  t : Tm
  a : Option Addr
  n : Nat
  c : Nat
def TmV.val (z : TmV) : Value := .agg #[.int .i64 (opT z.t), .string (nameT z.t), .int .i64 (numT z.t), .slice z.a z.n z.c]
set_option maxRecDepth 100000 in
theorem term_open_all {r : Reach} {b0 : Nat} {v : Value} {d : DataW H} {p : List MemPlace} (hv : Value.okWide Try.prog W r b0 33 v) (h : DataW.Trod enc Try.prog W 0 (fun _ => true) true 33 v d p) :
    ∃ z : TmV, v = z.val ∧ ArW W z.t z.a z.n z.c := by
  obtain ⟨v0, v1, v2, v3, y0, y1, y2, y3, n, rfl, _, _, g0, g1, g2, g3⟩ := open_agg4 Try.underlying33 (by kernel_rfl) (by kernel_rfl) hv h
  obtain ⟨t, a, m, c, hf, hr⟩ := four_of (fun m hm cs' x' h' => term_cells m m (Nat.le_refl _) cs' x' h') g0 g1 g2 g3
  simp only [List.cons.injEq, and_true] at hf
  obtain ⟨rfl, rfl, rfl, rfl⟩ := hf
  exact ⟨⟨t, a, m, c⟩, rfl, hr⟩
set_option maxRecDepth 100000 in
theorem terms_open_all {a : Option Addr} {n c : Nat} {d : DataW H} {p : List MemPlace} (h : DataW.Trod enc Try.prog W 0 (fun _ => true) true 31 (.slice a n c) d p) :
    ∃ X : List Tm, n ≤ 9223372036854775807 ∧ TsW W a n c X := by
  obtain ⟨fuel, hf⟩ := h
  have hf2 : DataW.trod enc Try.prog W 0 (fun _ => true) true fuel 31 [.slice a n c] = some (d, p) := by simpa [Value.cells] using hf
  have h8 : DataW.trod enc Try.prog W 0 (fun _ => true) true 1 2 [.int .i64 0] = some (.lit (.int .i64 0), []) := trod_int_mk (k := .i64) 0 Try.underlying2 (by decide)
  have h9 : DataW.trod enc Try.prog W 0 (fun _ => true) true 1 3 [.int .i64 0] = some (.lit (.int .i64 0), []) := trod_int_mk (k := .i64) 0 Try.underlying3 (by decide)
  obtain ⟨y, hy⟩ : ∃ y, DataW.trod enc Try.prog W 0 (fun _ => true) true 1 9 [.string ⟨#[]⟩] = some y := ⟨(.lit (.string []), []), by
    unfold DataW.trod
    rw [Try.underlying9]
    rfl⟩
  obtain ⟨t, a', m, c', hf3, hr⟩ := four_of (fun m hm cs' x' h' => term_cells m m (Nat.le_refl _) cs' x' h') h9 hy h8 hf2
  simp only [List.cons.injEq, and_true, Value.slice.injEq] at hf3
  obtain ⟨_, _, _, rfl, rfl, rfl⟩ := hf3
  have hq := ArW.args hr
  exact ⟨argsT t, by have := hq.2.1; have := hq.2.2.1; unfold maxLen at this; omega, hq⟩
end
end Go.Proofs.Ytacncbkcnhlpcaa.T
