/-
  What is proved: a list of pairs reads as such, with names of a size that texts have and numbers of 64 bits.
-/
import Derived.Test.YteidknjhponpkaaBM
import Derived.Test.YteidknjhponpkaaAP
import Derived.Lib.SmallJoins
import Derived.Deep.Slices
import Derived.Deep.Fields
import Derived.ChangeArms
import Derived.OpenShut
namespace Go.Proofs.Yteidknjhponpkaa.U
open Go.RowKit Go.Deep Go.ChangeShapes Go.WideShapes Go.Joins L T
set_option linter.unusedVariables false
set_option linter.unusedSimpArgs false

mutual
def smZ : Tm → Prop
  | .mk _ s z l => (s.size ≤ maxLen ∧ (Lit.int .i64 z).wf = true) ∧ smZs l
def smZs : List Tm → Prop
  | [] => True
  | t :: l => smZ t ∧ smZs l
end
theorem smZs_of : ∀ {l : List Tm}, (∀ k (h : k < l.length), smZ l[k]) → smZs l
  | [], _ => trivial
  | t :: l, h => by
    rw [smZs]
    exact ⟨h 0 (by simp), smZs_of fun k hk => h (k + 1) (by simpa using hk)⟩
theorem smZs_at : ∀ {l : List Tm} {k : Nat} {t : Tm}, smZs l → l[k]? = some t → smZ t
  | [], k, t, _, h => by simp at h
  | u :: l, 0, t, h, e => by rw [smZs] at h; simp at e; rw [← e]; exact h.1
  | u :: l, k + 1, t, h, e => by rw [smZs] at h; exact smZs_at h.2 (by simpa using e)
theorem smZ_args {t : Tm} (h : smZ t) : smZs (argsT t) := by cases t; rw [smZ] at h; exact h.2
theorem smZ_name {t : Tm} (h : smZ t) : (nameT t).size ≤ maxLen := by cases t; rw [smZ] at h; exact h.1.1
section
variable {H : Type} {enc : TypeId × Value → H} {W : World} {sp : Nat → Bool}
def FourZ (W : World) (cs : List Value) (t : Tm) (a : Option Addr) (n c : Nat) : Prop := FourOk W cs t a n c ∧ smZ t
set_option maxRecDepth 100000 in
theorem fourZ_of {v0 v1 v2 v3 : Value} {n0 n1 n2 n3 : Nat} {y0 y1 y2 y3 : DataW H × List MemPlace}
    (ih : ∀ m, m ≤ n3 → ∀ (cs : List Value) (x : DataW H × List MemPlace), DataW.trod enc Try.prog W 0 (fun _ => true) true m 24 cs = some x → ∃ t a n c, FourZ W cs t a n c)
    (g0 : DataW.trod enc Try.prog W 0 (fun _ => true) true n0 3 [v0] = some y0) (g1 : DataW.trod enc Try.prog W 0 (fun _ => true) true n1 9 [v1] = some y1)
    (g2 : DataW.trod enc Try.prog W 0 (fun _ => true) true n2 2 [v2] = some y2) (g3 : DataW.trod enc Try.prog W 0 (fun _ => true) true n3 22 [v3] = some y3) :
    ∃ t a n c, FourZ W [v0, v1, v2, v3] t a n c := by
  obtain ⟨o, e0, _, _⟩ := DataW.trod_int (k := .i64) Try.underlying3 g0
  obtain ⟨s, e1, _, hss⟩ := DataW.trod_string Try.underlying9 g1
  obtain ⟨z, e2, _, hzw⟩ := DataW.trod_int (k := .i64) Try.underlying2 g2
  obtain rfl : v0 = .int .i64 o := by simpa using e0
  obtain rfl : v1 = .string s := by simpa using e1
  obtain rfl : v2 = .int .i64 z := by simpa using e2
  rcases DataW.trod_slice Try.underlying22 g3 with h0 | ⟨ad, len, cap, elems, rest, n, hn, hcs, _, _, hl, hmx, hlen, hi, _⟩
  · obtain rfl : v3 = .slice none 0 0 := by simpa using h0.1
    exact ⟨.mk o s z [], none, 0, 0, ⟨rfl, by unfold ArW; rw [Ar]; exact ⟨rfl, Nat.le_refl _, Nat.zero_le _, fun _ => rfl, fun h => absurd h (by omega)⟩⟩, by rw [smZ]; exact ⟨⟨hss, hzw⟩, trivial⟩⟩
  · obtain rfl : v3 = .slice (some ad) len cap := by simpa using hcs
    have hC : Try.prog.cellsOf 24 = 4 := by kernel_rfl
    obtain ⟨Y, hY, hall⟩ := T.list_ofT len (P := fun i (t : Tm) => ∃ a n c, W.cell? (ad.add (i * 4)) = some (.int .i64 (opT t)) ∧ W.cell? ((ad.add (i * 4)).add 1) = some (.string (nameT t)) ∧ W.cell? ((ad.add (i * 4)).add 2) = some (.int .i64 (numT t)) ∧ W.cell? ((ad.add (i * 4)).add 3) = some (.slice a n c) ∧ ArW W t a n c ∧ smZ t) (fun i hin => by
      have hq := hi i (by omega)
      rw [List.getElem?_eq_getElem (show i < elems.length by omega)] at hq
      obtain ⟨cs', h1, h2⟩ := Option.bind_eq_some_iff.1 hq
      rw [hC] at h1
      obtain ⟨_, hl2, hat⟩ := World.cells?_some h1
      obtain ⟨t, a, n', c, ⟨hf, hr⟩, hsm⟩ := ih n (by omega) _ _ h2
      subst hf
      exact ⟨t, a, n', c, by simpa [Addr.add] using hat 0 (by simp), hat 1 (by simp), hat 2 (by simp), hat 3 (by simp), hr, hsm⟩)
    refine ⟨.mk o s z Y, some ad, len, cap, ⟨rfl, ?_⟩, by rw [smZ]; exact ⟨⟨hss, hzw⟩, smZs_of fun k hk => by obtain ⟨_, _, _, _, _, _, _, _, h⟩ := hall k hk; exact h⟩⟩
    unfold ArW
    rw [Ar]
    refine ⟨hY.symm, hl, hmx, fun h => (by cases h), fun hn => ?_⟩
    obtain ⟨b, off, spot⟩ := ad
    have hspot : spot = none := by
      obtain ⟨_, _, _, h1, _⟩ := hall 0 (by omega)
      simpa [Addr.add] using World.cell?_spot h1
    subst hspot
    refine ⟨b, off, rfl, ?_, rw_at.2 fun i hi2 => ?_⟩
    · obtain ⟨_, _, _, h1, _⟩ := hall 0 (by omega)
      rw [Go.WideShapes.add_plain] at h1
      exact World.block_lt_of_cell? _ _ h1
    · obtain ⟨a, n, c, h1, h2, h3, h4, h5, _⟩ := hall i hi2
      rw [Go.WideShapes.add_plain] at h1 h2 h3 h4
      rw [Go.WideShapes.add_plain] at h2 h3 h4
      exact ⟨a, n, c, h1, h2, h3, h4, h5⟩
set_option maxRecDepth 100000 in
theorem termZ_cells : ∀ (N fuel : Nat), fuel ≤ N → ∀ (cs : List Value) (x : DataW H × List MemPlace), DataW.trod enc Try.prog W 0 (fun _ => true) true fuel 24 cs = some x → ∃ t a n c, FourZ W cs t a n c
  | 0, fuel, hf, cs, x, h => by
    obtain rfl : fuel = 0 := by omega
    simp [DataW.trod] at h
  | N + 1, fuel, hf, cs, x, h => by
    obtain ⟨xs, n, hn, _, hcl, hxl, hi⟩ := DataW.trod_struct Try.underlying24 h
    have hC : Try.prog.cellsOf 24 = 4 := by kernel_rfl
    rw [hC] at hcl
    match cs, hcl with
    | [c0, c1, c2, c3], _ =>
      match xs, hxl with
      | [x0, x1, x2, x3], _ =>
        have g0 : DataW.trod enc Try.prog W 0 (fun _ => true) true n 3 (([c0, c1, c2, c3].drop 0).take (Try.prog.cellsOf 3)) = some x0 := hi 0 _ rfl
        have g1 : DataW.trod enc Try.prog W 0 (fun _ => true) true n 9 (([c0, c1, c2, c3].drop 1).take (Try.prog.cellsOf 9)) = some x1 := hi 1 _ rfl
        have g2 : DataW.trod enc Try.prog W 0 (fun _ => true) true n 2 (([c0, c1, c2, c3].drop 2).take (Try.prog.cellsOf 2)) = some x2 := hi 2 _ rfl
        have g3 : DataW.trod enc Try.prog W 0 (fun _ => true) true n 22 (([c0, c1, c2, c3].drop 3).take (Try.prog.cellsOf 22)) = some x3 := hi 3 _ rfl
        have z1 : Try.prog.cellsOf 2 = 1 := by kernel_rfl
        have z2 : Try.prog.cellsOf 9 = 1 := by kernel_rfl
        have z3 : Try.prog.cellsOf 22 = 1 := by kernel_rfl
        have z0 : Try.prog.cellsOf 3 = 1 := by kernel_rfl
        rw [z0] at g0
        rw [z1] at g2
        rw [z2] at g1
        rw [z3] at g3
        exact fourZ_of (fun m hm cs' x' h' => termZ_cells N m (by omega) cs' x' h') g0 g1 g2 g3


set_option maxRecDepth 100000 in
theorem pairZ_cells (fuel : Nat) (cs : List Value) (x : DataW H × List MemPlace) (h : DataW.trod enc Try.prog W 0 (fun _ => true) true fuel 43 cs = some x) :
    ∃ p : Pr, ∃ a n c, cs = [.string p.nm, .int .i64 (opT p.t), .string (nameT p.t), .int .i64 (numT p.t), .slice a n c] ∧ ArW W p.t a n c ∧ smZ p.t ∧ p.nm.size ≤ maxLen := by
  obtain ⟨xs, n, hn, _, hcl, hxl, hi⟩ := DataW.trod_struct Try.underlying43 h
  have hC : Try.prog.cellsOf 43 = 5 := by kernel_rfl
  rw [hC] at hcl
  match cs, hcl with
  | [c0, c1, c2, c3, c4], _ =>
    match xs, hxl with
    | [x0, x1], _ =>
      have g0 : DataW.trod enc Try.prog W 0 (fun _ => true) true n 9 (([c0, c1, c2, c3, c4].drop 0).take (Try.prog.cellsOf 9)) = some x0 := hi 0 _ rfl
      have g1 : DataW.trod enc Try.prog W 0 (fun _ => true) true n 24 (([c0, c1, c2, c3, c4].drop 1).take (Try.prog.cellsOf 24)) = some x1 := hi 1 _ rfl
      have z2 : Try.prog.cellsOf 9 = 1 := by kernel_rfl
      have z3 : Try.prog.cellsOf 24 = 4 := by kernel_rfl
      rw [z2] at g0
      rw [z3] at g1
      have g0' : DataW.trod enc Try.prog W 0 (fun _ => true) true n 9 [c0] = some x0 := g0
      obtain ⟨s, e1, _, hss⟩ := DataW.trod_string Try.underlying9 g0'
      obtain rfl : c0 = .string s := by simpa using e1
      obtain ⟨t, a, m, c, ⟨hf, hr⟩, hsm⟩ := termZ_cells n n (Nat.le_refl _) _ _ g1
      have hf2 : [c1, c2, c3, c4] = [.int .i64 (opT t), .string (nameT t), .int .i64 (numT t), .slice a m c] := hf
      simp only [List.cons.injEq, and_true] at hf2
      obtain ⟨rfl, rfl, rfl, rfl⟩ := hf2
      exact ⟨⟨s, t⟩, a, m, c, rfl, hr, hsm, hss⟩
/-- names and terms of pairs, of a size that texts have -/
def smUz (l : List Pr) : Prop := ∀ p ∈ l, smZ p.t ∧ p.nm.size ≤ maxLen
set_option maxRecDepth 100000 in
theorem pairsZ_open {a : Option Addr} {n c : Nat} {d : DataW H} {p : List MemPlace} (h : DataW.Trod enc Try.prog W 0 (fun _ => true) true 31 (.slice a n c) d p) :
    ∃ X : List Pr, n ≤ 9223372036854775807 ∧ UsW W a n c X ∧ smUz X := by
  obtain ⟨fuel, hf⟩ := h
  have g3 : DataW.trod enc Try.prog W 0 (fun _ => true) true fuel 31 [.slice a n c] = some (d, p) := by simpa [Value.cells] using hf
  rcases DataW.trod_slice Try.underlying31 g3 with h0 | ⟨ad, len, cap, elems, rest, m, hn, hcs, _, _, hl, hmx, hlen, hi, _⟩
  · have h1 : Value.slice a n c = .slice none 0 0 := by simpa using h0.1
    injection h1 with e1 e2 e3
    subst e1 e2 e3
    exact ⟨[], by omega, UsW.nil _, fun p hp => by simp at hp⟩
  · have h1 : Value.slice a n c = .slice (some ad) len cap := by simpa using hcs
    injection h1 with e1 e2 e3
    subst e1 e2 e3
    have hC : Try.prog.cellsOf 43 = 5 := by kernel_rfl
    obtain ⟨Y, hY, hall⟩ := T.list_ofT n (P := fun i (q : Pr) => ∃ a n c, W.cell? (ad.add (i * 5)) = some (.string q.nm) ∧ W.cell? ((ad.add (i * 5)).add 1) = some (.int .i64 (opT q.t)) ∧ W.cell? ((ad.add (i * 5)).add 2) = some (.string (nameT q.t)) ∧ W.cell? ((ad.add (i * 5)).add 3) = some (.int .i64 (numT q.t)) ∧ W.cell? ((ad.add (i * 5)).add 4) = some (.slice a n c) ∧ ArW W q.t a n c ∧ smZ q.t ∧ q.nm.size ≤ maxLen) (fun i hin => by
      have hq := hi i (by omega)
      rw [List.getElem?_eq_getElem (show i < elems.length by omega)] at hq
      obtain ⟨cs', h1, h2⟩ := Option.bind_eq_some_iff.1 hq
      rw [hC] at h1
      obtain ⟨_, hl2, hat⟩ := World.cells?_some h1
      obtain ⟨q, a, n', c, hf, hr, hsm, hsn⟩ := pairZ_cells _ _ _ h2
      subst hf
      exact ⟨q, a, n', c, by simpa [Addr.add] using hat 0 (by simp), hat 1 (by simp), hat 2 (by simp), hat 3 (by simp), hat 4 (by simp), hr, hsm, hsn⟩)
    refine ⟨Y, by unfold maxLen at hmx; omega, ⟨hY.symm, hl, hmx, fun h => (by cases h), fun hn => ?_⟩, fun q hq => ?_⟩
    · obtain ⟨b, off, spot⟩ := ad
      have hspot : spot = none := by
        obtain ⟨_, _, _, h1, _⟩ := hall 0 (by omega)
        simpa [Addr.add] using World.cell?_spot h1
      subst hspot
      refine ⟨b, off, rfl, ?_, fun i q hq => ?_⟩
      · obtain ⟨_, _, _, h1, _⟩ := hall 0 (by omega)
        rw [Go.WideShapes.add_plain] at h1
        exact World.block_lt_of_cell? _ _ h1
      · obtain ⟨hi2, rfl⟩ := List.getElem?_eq_some_iff.1 hq
        obtain ⟨a, n, c, h1, h2, h3, h4, h5, h6, _⟩ := hall i hi2
        rw [Go.WideShapes.add_plain] at h1 h2 h3 h4 h5
        rw [Go.WideShapes.add_plain] at h2 h3 h4 h5
        exact ⟨a, n, c, h1, h2, h3, h4, h5, h6⟩
    · obtain ⟨i, hi2, rfl⟩ := List.getElem_of_mem hq
      obtain ⟨_, _, _, _, _, _, _, _, _, h7, h8⟩ := hall i hi2
      exact ⟨h7, h8⟩
end
mutual
theorem smZ_T : ∀ t : Tm, smZ t → smT t ∧ zT t
  | .mk o s z l, h => by
    rw [smZ] at h
    have := smZs_T l h.2
    have hw := h.1.2
    rw [smT, zT]
    refine ⟨⟨h.1.1, this.1⟩, ?_, this.2⟩
    have hmin : IntKind.i64.min = -9223372036854775808 := by decide
    have hmax : IntKind.i64.max = 9223372036854775807 := by decide
    unfold Lit.wf at hw
    rw [Bool.and_eq_true, decide_eq_true_eq, decide_eq_true_eq, hmin, hmax] at hw
    exact hw
theorem smZs_T : ∀ l : List Tm, smZs l → smTs l ∧ zTs l
  | [], _ => by rw [smTs, zTs]; exact ⟨trivial, trivial⟩
  | t :: l, h => by
    rw [smZs] at h
    have h1 := smZ_T t h.1
    have h2 := smZs_T l h.2
    rw [smTs, zTs]
    exact ⟨⟨h1.1, h2.1⟩, h1.2, h2.2⟩
end
theorem pairsZ_open_all {H : Type} {enc : TypeId × Value → H} {W : World} {a : Option Addr} {n c : Nat} {d : DataW H} {p : List MemPlace} (h : DataW.Trod enc Try.prog W 0 (fun _ => true) true 31 (.slice a n c) d p) :
    ∃ X : List Pr, n ≤ 9223372036854775807 ∧ UsW W a n c X ∧ smU X ∧ ∀ p ∈ X, zT p.t := by
  obtain ⟨X, h1, h2, h3⟩ := pairsZ_open h
  exact ⟨X, h1, h2, fun p hp => ⟨(smZ_T _ (h3 p hp).1).1, (h3 p hp).2⟩, fun p hp => (smZ_T _ (h3 p hp).1).2⟩
end Go.Proofs.Yteidknjhponpkaa.U
