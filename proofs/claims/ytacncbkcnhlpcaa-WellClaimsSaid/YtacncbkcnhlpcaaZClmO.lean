/-
  What is proved: an argument that is a claim reads as a tree; a slice of claims as a list of trees.
-/
import Derived.Test.YtacncbkcnhlpcaaZClmB
import Derived.Test.YtacncbkcnhlpcaaZTrmO
import Derived.Lib.SmallJoins
import Derived.Deep.Slices
import Derived.Deep.Fields
import Derived.ChangeArms
import Derived.OpenShut
namespace Go.Proofs.Ytacncbkcnhlpcaa.C
open Go.RowKit Go.Deep Go.ChangeShapes Go.WideShapes Go.Joins L T
set_option linter.unusedVariables false

section
variable {H : Type} {enc : TypeId × Value → H} {W : World} {sp : Nat → Bool}
/-- one claim in five cells -/
def FiveOk (W : World) (cs : List Value) (t : Cl) (k : SS) (a : Option Addr) (n c : Nat) : Prop := cs = [.int .i64 (opC t), .string (nmC t), .string (soC t), .slice k.a k.n k.c, .slice a n c] ∧ ArWC W t k a n c
set_option maxRecDepth 100000 in
theorem five_of {v0 v1 v2 v3 v4 : Value} {n0 n1 n2 n3 n4 : Nat} {y0 y1 y2 y3 y4 : DataW H × List MemPlace}
    (ih : ∀ m, m ≤ n4 → ∀ (cs : List Value) (x : DataW H × List MemPlace), DataW.trod enc Try.prog W 0 (fun _ => true) true m 46 cs = some x → ∃ t k a n c, FiveOk W cs t k a n c)
    (g0 : DataW.trod enc Try.prog W 0 (fun _ => true) true n0 3 [v0] = some y0) (g1 : DataW.trod enc Try.prog W 0 (fun _ => true) true n1 9 [v1] = some y1)
    (g2 : DataW.trod enc Try.prog W 0 (fun _ => true) true n2 9 [v2] = some y2) (g3 : DataW.trod enc Try.prog W 0 (fun _ => true) true n3 31 [v3] = some y3) (g4 : DataW.trod enc Try.prog W 0 (fun _ => true) true n4 44 [v4] = some y4) :
    ∃ t k a n c, FiveOk W [v0, v1, v2, v3, v4] t k a n c := by
  obtain ⟨o, e0, _, _⟩ := DataW.trod_int (k := .i64) Try.underlying3 g0
  obtain ⟨s, e1, _, _⟩ := DataW.trod_string Try.underlying9 g1
  obtain ⟨z, e2, _, _⟩ := DataW.trod_string Try.underlying9 g2
  obtain rfl : v0 = .int .i64 o := by simpa using e0
  obtain rfl : v1 = .string s := by simpa using e1
  obtain rfl : v2 = .string z := by simpa using e2
  obtain ⟨ka, kn, kc, rfl⟩ : ∃ ka kn kc, v3 = .slice ka kn kc := by
    rcases DataW.trod_slice Try.underlying31 g3 with h0 | ⟨ad, len, cap, elems, rest, n, hn, hcs, _⟩
    · exact ⟨none, 0, 0, by simpa using h0.1⟩
    · exact ⟨some ad, len, cap, by simpa using hcs⟩
  obtain ⟨ts, _, hts⟩ := terms_open_all (enc := enc) (W := W) (a := ka) (n := kn) (c := kc) ⟨n3, by simpa [Value.cells] using g3⟩
  rcases DataW.trod_slice Try.underlying44 g4 with h0 | ⟨ad, len, cap, elems, rest, n, hn, hcs, _, _, hl, hmx, hlen, hi, _⟩
  · obtain rfl : v4 = .slice none 0 0 := by simpa using h0.1
    exact ⟨.mk o s z ts [], ⟨ka, kn, kc⟩, none, 0, 0, rfl, by unfold ArWC; rw [ArC]; exact ⟨hts, rfl, Nat.le_refl _, Nat.zero_le _, fun _ => rfl, fun h => absurd h (by omega)⟩⟩
  · obtain rfl : v4 = .slice (some ad) len cap := by simpa using hcs
    have hC : Try.prog.cellsOf 46 = 5 := by kernel_rfl
    obtain ⟨Y, hY, hall⟩ := list_ofT len (P := fun i (t : Cl) => ∃ k a n c, W.cell? (ad.add (i * 5)) = some (.int .i64 (opC t)) ∧ W.cell? ((ad.add (i * 5)).add 1) = some (.string (nmC t)) ∧ W.cell? ((ad.add (i * 5)).add 2) = some (.string (soC t)) ∧ W.cell? ((ad.add (i * 5)).add 3) = some (.slice (SS.a k) (SS.n k) (SS.c k)) ∧ W.cell? ((ad.add (i * 5)).add 4) = some (.slice a n c) ∧ ArWC W t k a n c) (fun i hin => by
      have hq := hi i (by omega)
      rw [List.getElem?_eq_getElem (show i < elems.length by omega)] at hq
      obtain ⟨cs', h1, h2⟩ := Option.bind_eq_some_iff.1 hq
      rw [hC] at h1
      obtain ⟨_, hl2, hat⟩ := World.cells?_some h1
      obtain ⟨t, k, a, n', c, hf, hr⟩ := ih n (by omega) _ _ h2
      subst hf
      exact ⟨t, k, a, n', c, by simpa [Addr.add] using hat 0 (by simp), hat 1 (by simp), hat 2 (by simp), hat 3 (by simp), hat 4 (by simp), hr⟩)
    refine ⟨.mk o s z ts Y, ⟨ka, kn, kc⟩, some ad, len, cap, rfl, ?_⟩
    unfold ArWC
    rw [ArC]
    refine ⟨hts, hY.symm, hl, hmx, fun h => (by cases h), fun hn => ?_⟩
    obtain ⟨b, off, spot⟩ := ad
    have hspot : spot = none := by
      obtain ⟨_, _, _, _, h1, _⟩ := hall 0 (by omega)
      simpa [Addr.add] using World.cell?_spot h1
    subst hspot
    refine ⟨b, off, rfl, ?_, rwc_at.2 fun i hi2 => ?_⟩
    · obtain ⟨_, _, _, _, h1, _⟩ := hall 0 (by omega)
      rw [Go.WideShapes.add_plain] at h1
      exact World.block_lt_of_cell? _ _ h1
    · obtain ⟨k, a, n, c, h1, h2, h3, h4, h5, h6⟩ := hall i hi2
      rw [Go.WideShapes.add_plain] at h1 h2 h3 h4 h5
      rw [Go.WideShapes.add_plain] at h2 h3 h4 h5
      exact ⟨k, a, n, c, h1, h2, h3, h4, h5, h6⟩
set_option maxRecDepth 100000 in
theorem claim_cells : ∀ (N fuel : Nat), fuel ≤ N → ∀ (cs : List Value) (x : DataW H × List MemPlace), DataW.trod enc Try.prog W 0 (fun _ => true) true fuel 46 cs = some x → ∃ t k a n c, FiveOk W cs t k a n c
  | 0, fuel, hf, cs, x, h => by
    obtain rfl : fuel = 0 := by omega
    simp [DataW.trod] at h
  | N + 1, fuel, hf, cs, x, h => by
    obtain ⟨xs, n, hn, _, hcl, hxl, hi⟩ := DataW.trod_struct Try.underlying46 h
    have hC : Try.prog.cellsOf 46 = 5 := by kernel_rfl
    rw [hC] at hcl
    match cs, hcl with
    | [c0, c1, c2, c3, c4], _ =>
      match xs, hxl with
      | [x0, x1, x2, x3, x4], _ =>
        have g0 : DataW.trod enc Try.prog W 0 (fun _ => true) true n 3 (([c0, c1, c2, c3, c4].drop 0).take (Try.prog.cellsOf 3)) = some x0 := hi 0 _ rfl
        have g1 : DataW.trod enc Try.prog W 0 (fun _ => true) true n 9 (([c0, c1, c2, c3, c4].drop 1).take (Try.prog.cellsOf 9)) = some x1 := hi 1 _ rfl
        have g2 : DataW.trod enc Try.prog W 0 (fun _ => true) true n 9 (([c0, c1, c2, c3, c4].drop 2).take (Try.prog.cellsOf 9)) = some x2 := hi 2 _ rfl
        have g3 : DataW.trod enc Try.prog W 0 (fun _ => true) true n 31 (([c0, c1, c2, c3, c4].drop 3).take (Try.prog.cellsOf 31)) = some x3 := hi 3 _ rfl
        have g4 : DataW.trod enc Try.prog W 0 (fun _ => true) true n 44 (([c0, c1, c2, c3, c4].drop 4).take (Try.prog.cellsOf 44)) = some x4 := hi 4 _ rfl
        have z2 : Try.prog.cellsOf 9 = 1 := by kernel_rfl
        have z3 : Try.prog.cellsOf 31 = 1 := by kernel_rfl
        have z4 : Try.prog.cellsOf 44 = 1 := by kernel_rfl
        have z0 : Try.prog.cellsOf 3 = 1 := by kernel_rfl
        rw [z0] at g0
        rw [z2] at g1 g2
        rw [z3] at g3
        rw [z4] at g4
        exact five_of (fun m hm cs' x' h' => claim_cells N m (by omega) cs' x' h') g0 g1 g2 g3 g4

/-- a claim's value and what it reads as -/
structure ClV where
  t : Cl
  k : SS
  a : Option Addr
  n : Nat
  c : Nat
def ClV.val (z : ClV) : Value := .agg #[.int .i64 (opC z.t), .string (nmC z.t), .string (soC z.t), .slice z.k.a z.k.n z.k.c, .slice z.a z.n z.c]
section
variable {P : Program} {w : World} {base : Nat} {spare : Nat → Bool} {held : Bool}
theorem array5C {cs : Array Value} (h : cs.size = 5) : ∃ c0 c1 c2 c3 c4, cs = #[c0, c1, c2, c3, c4] := by
  obtain ⟨l⟩ := cs
  match l, h with
  | [c0, c1, c2, c3, c4], _ => exact ⟨c0, c1, c2, c3, c4, rfl⟩
theorem open_agg5C {r : Reach} {b0 : Nat} {t : TypeId} {f0 f1 f2 f3 f4 : Field} {v : Value} {d : DataW H} {p : List MemPlace} (hs : P.underlying t = some (.struct #[f0, f1, f2, f3, f4])) (hone : oneCellFields P #[f0, f1, f2, f3, f4] = true) (hC : P.cellsOf t = 5)
    (hv : Value.okWide P w r b0 t v) (h : DataW.Trod enc P w base spare held t v d p) :
    ∃ (v0 v1 v2 v3 v4 : Value) (y0 y1 y2 y3 y4 : DataW H × List MemPlace) (n : Nat), v = .agg #[v0, v1, v2, v3, v4] ∧
      DataW.trod enc P w base spare held n f0.type [v0] = some y0 ∧ DataW.trod enc P w base spare held n f1.type [v1] = some y1 ∧ DataW.trod enc P w base spare held n f2.type [v2] = some y2 ∧ DataW.trod enc P w base spare held n f3.type [v3] = some y3 ∧ DataW.trod enc P w base spare held n f4.type [v4] = some y4 := by
  obtain ⟨cs, rfl, hsz⟩ := okWide_struct hs hv
  obtain ⟨c0, c1, c2, c3, c4, rfl⟩ := array5C (hsz.trans hC)
  obtain ⟨fuel, hf⟩ := h
  obtain ⟨xs, n, _, _, hl, hlen, hi⟩ := DataW.trod_struct hs hf
  obtain ⟨o0, k0⟩ := hone_of hone 0 f0 rfl
  obtain ⟨o1, k1⟩ := hone_of hone 1 f1 rfl
  obtain ⟨o2, k2⟩ := hone_of hone 2 f2 rfl
  obtain ⟨o3, k3⟩ := hone_of hone 3 f3 rfl
  obtain ⟨o4, k4⟩ := hone_of hone 4 f4 rfl
  match xs, hlen with
  | [y0, y1, y2, y3, y4], _ =>
    have h0 := hi 0 f0 rfl
    have h1 := hi 1 f1 rfl
    have h2 := hi 2 f2 rfl
    have h3 := hi 3 f3 rfl
    have h4 := hi 4 f4 rfl
    exact ⟨c0, c1, c2, c3, c4, y0, y1, y2, y3, y4, n, rfl, by simpa [Value.cells, o0, k0] using h0, by simpa [Value.cells, o1, k1] using h1, by simpa [Value.cells, o2, k2] using h2, by simpa [Value.cells, o3, k3] using h3, by simpa [Value.cells, o4, k4] using h4⟩
end
set_option maxRecDepth 100000 in
theorem claim_open_all {r : Reach} {b0 : Nat} {v : Value} {d : DataW H} {p : List MemPlace} (hv : Value.okWide Try.prog W r b0 46 v) (h : DataW.Trod enc Try.prog W 0 (fun _ => true) true 46 v d p) :
    ∃ z : ClV, v = z.val ∧ ArWC W z.t z.k z.a z.n z.c := by
  obtain ⟨v0, v1, v2, v3, v4, y0, y1, y2, y3, y4, n, rfl, g0, g1, g2, g3, g4⟩ := open_agg5C Try.underlying46 (by kernel_rfl) (by kernel_rfl) hv h
  obtain ⟨t, k, a, m, c, hf, hr⟩ := five_of (fun m hm cs' x' h' => claim_cells m m (Nat.le_refl _) cs' x' h') g0 g1 g2 g3 g4
  simp only [List.cons.injEq, and_true] at hf
  obtain ⟨rfl, rfl, rfl, rfl, rfl⟩ := hf
  exact ⟨⟨t, k, a, m, c⟩, rfl, hr⟩
end
end Go.Proofs.Ytacncbkcnhlpcaa.C
