/-
  What is proved: an argument that is a claim reads as such, with names of terms of a size that texts have.
-/
import Derived.Test.YtnhemglpbhnmdaaGreatZSbJ
import Derived.Test.YtnhemglpbhnmdaaGreatBM
import Derived.Test.YtnhemglpbhnmdaaGreatBC
namespace Go.Proofs.YtnhemglpbhnmdaaGreat.U
open Go.RowKit Go.Deep Go.ChangeShapes Go.WideShapes Go.Joins L T C
set_option linter.unusedVariables false
set_option linter.unusedSimpArgs false

section
variable {H : Type} {enc : TypeId × Value → H} {W : World} {sp : Nat → Bool}
def FiveS (W : World) (cs : List Value) (t : Cl) (k : SS) (a : Option Addr) (n c : Nat) : Prop := FiveOk W cs t k a n c ∧ smC t
set_option maxRecDepth 100000 in
theorem termsS_open {a : Option Addr} {n c fuel : Nat} {x : DataW H × List MemPlace} (h : DataW.trod enc Tryz.prog W 0 (fun _ => true) true fuel 22 [.slice a n c] = some x) :
    ∃ X : List Tm, TsW W a n c X ∧ smTs X := by
  rcases DataW.trod_slice Tryz.underlying22 h with h0 | ⟨ad, len, cap, elems, rest, m, hn, hcs, _, _, hl, hmx, hlen, hi, _⟩
  · have h1 : Value.slice a n c = .slice none 0 0 := by simpa using h0.1
    injection h1 with e1 e2 e3
    subst e1 e2 e3
    exact ⟨[], TsW.nil _, by rw [smTs]; trivial⟩
  · have h1 : Value.slice a n c = .slice (some ad) len cap := by simpa using hcs
    injection h1 with e1 e2 e3
    subst e1 e2 e3
    have hC : Tryz.prog.cellsOf 31 = 4 := by kernel_rfl
    obtain ⟨Y, hY, hall⟩ := T.list_ofT n (P := fun i (q : Tm) => ∃ a n c, W.cell? (ad.add (i * 4)) = some (.int .i64 (opT q)) ∧ W.cell? ((ad.add (i * 4)).add 1) = some (.string (nameT q)) ∧ W.cell? ((ad.add (i * 4)).add 2) = some (.int .i64 (numT q)) ∧ W.cell? ((ad.add (i * 4)).add 3) = some (.slice a n c) ∧ ArW W q a n c ∧ smT q) (fun i hin => by
      have hq := hi i (by omega)
      rw [List.getElem?_eq_getElem (show i < elems.length by omega)] at hq
      obtain ⟨cs', h1, h2⟩ := Option.bind_eq_some_iff.1 hq
      rw [hC] at h1
      obtain ⟨_, hl2, hat⟩ := World.cells?_some h1
      obtain ⟨t, a, n', c, ⟨hf, hr⟩, hsm⟩ := termS_cells m m (Nat.le_refl _) _ _ h2
      subst hf
      exact ⟨t, a, n', c, by simpa [Addr.add] using hat 0 (by simp), hat 1 (by simp), hat 2 (by simp), hat 3 (by simp), hr, hsm⟩)
    refine ⟨Y, ⟨hY.symm, hl, hmx, fun h => (by cases h), fun hn => ?_⟩, smTs_of fun k hk => by obtain ⟨_, _, _, _, _, _, _, _, h⟩ := hall k hk; exact h⟩
    obtain ⟨b, off, spot⟩ := ad
    have hspot : spot = none := by
      obtain ⟨_, _, _, h1, _⟩ := hall 0 (by omega)
      simpa [Addr.add] using World.cell?_spot h1
    subst hspot
    refine ⟨b, off, rfl, ?_, rw_at.2 fun i hi2 => ?_⟩
    · obtain ⟨_, _, _, h1, _⟩ := hall 0 (by omega)
      rw [Go.WideShapes.add_plain] at h1
      exact World.block_lt_of_cell? _ _ h1
    · obtain ⟨a, n, c, h1, h2, h3, h4, h5, _⟩ := hall i hi2
      rw [Go.WideShapes.add_plain] at h1 h2 h3 h4
      rw [Go.WideShapes.add_plain] at h2 h3 h4
      exact ⟨a, n, c, h1, h2, h3, h4, h5⟩
set_option maxRecDepth 100000 in
theorem fiveS_of {v0 v1 v2 v3 v4 : Value} {n0 n1 n2 n3 n4 : Nat} {y0 y1 y2 y3 y4 : DataW H × List MemPlace}
    (ih : ∀ m, m ≤ n4 → ∀ (cs : List Value) (x : DataW H × List MemPlace), DataW.trod enc Tryz.prog W 0 (fun _ => true) true m 25 cs = some x → ∃ t k a n c, FiveS W cs t k a n c)
    (g0 : DataW.trod enc Tryz.prog W 0 (fun _ => true) true n0 3 [v0] = some y0) (g1 : DataW.trod enc Tryz.prog W 0 (fun _ => true) true n1 9 [v1] = some y1)
    (g2 : DataW.trod enc Tryz.prog W 0 (fun _ => true) true n2 9 [v2] = some y2) (g3 : DataW.trod enc Tryz.prog W 0 (fun _ => true) true n3 22 [v3] = some y3) (g4 : DataW.trod enc Tryz.prog W 0 (fun _ => true) true n4 23 [v4] = some y4) :
    ∃ t k a n c, FiveS W [v0, v1, v2, v3, v4] t k a n c := by
  obtain ⟨o, e0, _, _⟩ := DataW.trod_int (k := .i64) Tryz.underlying3 g0
  obtain ⟨s, e1, _, _⟩ := DataW.trod_string Tryz.underlying9 g1
  obtain ⟨z, e2, _, _⟩ := DataW.trod_string Tryz.underlying9 g2
  obtain rfl : v0 = .int .i64 o := by simpa using e0
  obtain rfl : v1 = .string s := by simpa using e1
  obtain rfl : v2 = .string z := by simpa using e2
  obtain ⟨ka, kn, kc, rfl⟩ : ∃ ka kn kc, v3 = .slice ka kn kc := by
    rcases DataW.trod_slice Tryz.underlying22 g3 with h0 | ⟨ad, len, cap, elems, rest, n, hn, hcs, _⟩
    · exact ⟨none, 0, 0, by simpa using h0.1⟩
    · exact ⟨some ad, len, cap, by simpa using hcs⟩
  obtain ⟨ts, hts, hsm⟩ := termsS_open (enc := enc) (W := W) (a := ka) (n := kn) (c := kc) g3
  rcases DataW.trod_slice Tryz.underlying23 g4 with h0 | ⟨ad, len, cap, elems, rest, n, hn, hcs, _, _, hl, hmx, hlen, hi, _⟩
  · obtain rfl : v4 = .slice none 0 0 := by simpa using h0.1
    exact ⟨.mk o s z ts [], ⟨ka, kn, kc⟩, none, 0, 0, ⟨rfl, by unfold ArWC; rw [ArC]; exact ⟨hts, rfl, Nat.le_refl _, Nat.zero_le _, fun _ => rfl, fun h => absurd h (by omega)⟩⟩, by rw [smC, smCs]; exact ⟨hsm, trivial⟩⟩
  · obtain rfl : v4 = .slice (some ad) len cap := by simpa using hcs
    have hC : Tryz.prog.cellsOf 25 = 5 := by kernel_rfl
    obtain ⟨Y, hY, hall⟩ := T.list_ofT len (P := fun i (t : Cl) => ∃ k a n c, W.cell? (ad.add (i * 5)) = some (.int .i64 (opC t)) ∧ W.cell? ((ad.add (i * 5)).add 1) = some (.string (nmC t)) ∧ W.cell? ((ad.add (i * 5)).add 2) = some (.string (soC t)) ∧ W.cell? ((ad.add (i * 5)).add 3) = some (.slice (SS.a k) (SS.n k) (SS.c k)) ∧ W.cell? ((ad.add (i * 5)).add 4) = some (.slice a n c) ∧ ArWC W t k a n c ∧ smC t) (fun i hin => by
      have hq := hi i (by omega)
      rw [List.getElem?_eq_getElem (show i < elems.length by omega)] at hq
      obtain ⟨cs', h1, h2⟩ := Option.bind_eq_some_iff.1 hq
      rw [hC] at h1
      obtain ⟨_, hl2, hat⟩ := World.cells?_some h1
      obtain ⟨t, k, a, n', c, ⟨hf, hr⟩, hsc⟩ := ih n (by omega) _ _ h2
      subst hf
      exact ⟨t, k, a, n', c, by simpa [Addr.add] using hat 0 (by simp), hat 1 (by simp), hat 2 (by simp), hat 3 (by simp), hat 4 (by simp), hr, hsc⟩)
    refine ⟨.mk o s z ts Y, ⟨ka, kn, kc⟩, some ad, len, cap, ⟨rfl, ?_⟩, by rw [smC]; exact ⟨hsm, smCs_of fun k hk => by obtain ⟨_, _, _, _, _, _, _, _, _, _, h⟩ := hall k hk; exact h⟩⟩
    unfold ArWC
    rw [ArC]
    refine ⟨hts, hY.symm, hl, hmx, fun h => (by cases h), fun hn => ?_⟩
    obtain ⟨b, off, spot⟩ := ad
    have hspot : spot = none := by
      obtain ⟨_, _, _, _, h1, _⟩ := hall 0 (by omega)
      simpa [Addr.add] using World.cell?_spot h1
    subst hspot
    refine ⟨b, off, rfl, ?_, rwc_at.2 fun i hi2 => ?_⟩
    · obtain ⟨_, _, _, _, h1, _⟩ := hall 0 (by omega)
      rw [Go.WideShapes.add_plain] at h1
      exact World.block_lt_of_cell? _ _ h1
    · obtain ⟨k, a, n, c, h1, h2, h3, h4, h5, h6, _⟩ := hall i hi2
      rw [Go.WideShapes.add_plain] at h1 h2 h3 h4 h5
      rw [Go.WideShapes.add_plain] at h2 h3 h4 h5
      exact ⟨k, a, n, c, h1, h2, h3, h4, h5, h6⟩
set_option maxRecDepth 100000 in
theorem claimS_cells : ∀ (N fuel : Nat), fuel ≤ N → ∀ (cs : List Value) (x : DataW H × List MemPlace), DataW.trod enc Tryz.prog W 0 (fun _ => true) true fuel 25 cs = some x → ∃ t k a n c, FiveS W cs t k a n c
  | 0, fuel, hf, cs, x, h => by
    obtain rfl : fuel = 0 := by omega
    simp [DataW.trod] at h
  | N + 1, fuel, hf, cs, x, h => by
    obtain ⟨xs, n, hn, _, hcl, hxl, hi⟩ := DataW.trod_struct Tryz.underlying25 h
    have hC : Tryz.prog.cellsOf 25 = 5 := by kernel_rfl
    rw [hC] at hcl
    match cs, hcl with
    | [c0, c1, c2, c3, c4], _ =>
      match xs, hxl with
      | [x0, x1, x2, x3, x4], _ =>
        have g0 : DataW.trod enc Tryz.prog W 0 (fun _ => true) true n 3 (([c0, c1, c2, c3, c4].drop 0).take (Tryz.prog.cellsOf 3)) = some x0 := hi 0 _ rfl
        have g1 : DataW.trod enc Tryz.prog W 0 (fun _ => true) true n 9 (([c0, c1, c2, c3, c4].drop 1).take (Tryz.prog.cellsOf 9)) = some x1 := hi 1 _ rfl
        have g2 : DataW.trod enc Tryz.prog W 0 (fun _ => true) true n 9 (([c0, c1, c2, c3, c4].drop 2).take (Tryz.prog.cellsOf 9)) = some x2 := hi 2 _ rfl
        have g3 : DataW.trod enc Tryz.prog W 0 (fun _ => true) true n 22 (([c0, c1, c2, c3, c4].drop 3).take (Tryz.prog.cellsOf 22)) = some x3 := hi 3 _ rfl
        have g4 : DataW.trod enc Tryz.prog W 0 (fun _ => true) true n 23 (([c0, c1, c2, c3, c4].drop 4).take (Tryz.prog.cellsOf 23)) = some x4 := hi 4 _ rfl
        have z2 : Tryz.prog.cellsOf 9 = 1 := by kernel_rfl
        have z3 : Tryz.prog.cellsOf 22 = 1 := by kernel_rfl
        have z4 : Tryz.prog.cellsOf 23 = 1 := by kernel_rfl
        have z0 : Tryz.prog.cellsOf 3 = 1 := by kernel_rfl
        rw [z0] at g0
        rw [z2] at g1 g2
        rw [z3] at g3
        rw [z4] at g4
        exact fiveS_of (fun m hm cs' x' h' => claimS_cells N m (by omega) cs' x' h') g0 g1 g2 g3 g4

set_option maxRecDepth 100000 in
theorem claimS_open_all {r : Reach} {b0 : Nat} {v : Value} {d : DataW H} {p : List MemPlace} (hv : Value.okWide Tryz.prog W r b0 25 v) (h : DataW.Trod enc Tryz.prog W 0 (fun _ => true) true 25 v d p) :
    ∃ z : ClV, v = z.val ∧ ArWC W z.t z.k z.a z.n z.c ∧ smC z.t := by
  obtain ⟨v0, v1, v2, v3, v4, y0, y1, y2, y3, y4, n, rfl, g0, g1, g2, g3, g4⟩ := open_agg5C Tryz.underlying25 (by kernel_rfl) (by kernel_rfl) hv h
  obtain ⟨t, k, a, m, c, ⟨hf, hr⟩, hsc⟩ := fiveS_of (fun m hm cs' x' h' => claimS_cells m m (Nat.le_refl _) cs' x' h') g0 g1 g2 g3 g4
  simp only [List.cons.injEq, and_true] at hf
  obtain ⟨rfl, rfl, rfl, rfl, rfl⟩ := hf
  exact ⟨⟨t, k, a, m, c⟩, rfl, hr, hsc⟩
end
end Go.Proofs.YtnhemglpbhnmdaaGreat.U
