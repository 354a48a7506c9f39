/-
  What is proved: an argument that is a term, or a claim, reads as such, with texts and numbers of a size that they have in memory.
-/
import Derived.Test.YtcigeclnbhcohaaGreatDoorBT
import Derived.Test.YtcigeclnbhcohaaGreatDoorBC
import Derived.Lib.SmallJoins
import Derived.Deep.Slices
import Derived.Deep.Fields
import Derived.ChangeArms
import Derived.OpenShut
namespace Go.Proofs.YtcigeclnbhcohaaGreatDoor.Sh
open Go.RowKit Go.Deep Go.ChangeShapes Go.WideShapes Go.Joins L T C
set_option linter.unusedVariables false
set_option linter.unusedSimpArgs false

mutual
def smZ : Tm → Prop
  | .mk _ s z l => (s.size ≤ maxLen ∧ (Lit.int .i64 z).wf = true) ∧ smZs l
def smZs : List Tm → Prop
  | [] => True
  | t :: l => smZ t ∧ smZs l
end
theorem smZs_of : ∀ {l : List Tm}, (∀ k (h : k < l.length), smZ l[k]) → smZs l
  | [], _ => trivial
  | t :: l, h => by
    rw [smZs]
    exact ⟨h 0 (by simp), smZs_of fun k hk => h (k + 1) (by simpa using hk)⟩
theorem smZs_at : ∀ {l : List Tm} {k : Nat} {t : Tm}, smZs l → l[k]? = some t → smZ t
  | [], k, t, _, h => by simp at h
  | u :: l, 0, t, h, e => by rw [smZs] at h; simp at e; rw [← e]; exact h.1
  | u :: l, k + 1, t, h, e => by rw [smZs] at h; exact smZs_at h.2 (by simpa using e)
theorem smZ_args {t : Tm} (h : smZ t) : smZs (argsT t) := by cases t; rw [smZ] at h; exact h.2
theorem smZ_name {t : Tm} (h : smZ t) : (nameT t).size ≤ maxLen := by cases t; rw [smZ] at h; exact h.1.1
section
variable {H : Type} {enc : TypeId × Value → H} {W : World} {sp : Nat → Bool}
def FourZ (W : World) (cs : List Value) (t : Tm) (a : Option Addr) (n c : Nat) : Prop := FourOk W cs t a n c ∧ smZ t
set_option maxRecDepth 100000 in
theorem fourZ_of {v0 v1 v2 v3 : Value} {n0 n1 n2 n3 : Nat} {y0 y1 y2 y3 : DataW H × List MemPlace}
    (ih : ∀ m, m ≤ n3 → ∀ (cs : List Value) (x : DataW H × List MemPlace), DataW.trod enc Tryz.prog W 0 (fun _ => true) true m 24 cs = some x → ∃ t a n c, FourZ W cs t a n c)
    (g0 : DataW.trod enc Tryz.prog W 0 (fun _ => true) true n0 3 [v0] = some y0) (g1 : DataW.trod enc Tryz.prog W 0 (fun _ => true) true n1 9 [v1] = some y1)
    (g2 : DataW.trod enc Tryz.prog W 0 (fun _ => true) true n2 2 [v2] = some y2) (g3 : DataW.trod enc Tryz.prog W 0 (fun _ => true) true n3 22 [v3] = some y3) :
    ∃ t a n c, FourZ W [v0, v1, v2, v3] t a n c := by
  obtain ⟨o, e0, _, _⟩ := DataW.trod_int (k := .i64) Tryz.underlying3 g0
  obtain ⟨s, e1, _, hss⟩ := DataW.trod_string Tryz.underlying9 g1
  obtain ⟨z, e2, _, hzw⟩ := DataW.trod_int (k := .i64) Tryz.underlying2 g2
  obtain rfl : v0 = .int .i64 o := by simpa using e0
  obtain rfl : v1 = .string s := by simpa using e1
  obtain rfl : v2 = .int .i64 z := by simpa using e2
  rcases DataW.trod_slice Tryz.underlying22 g3 with h0 | ⟨ad, len, cap, elems, rest, n, hn, hcs, _, _, hl, hmx, hlen, hi, _⟩
  · obtain rfl : v3 = .slice none 0 0 := by simpa using h0.1
    exact ⟨.mk o s z [], none, 0, 0, ⟨rfl, by unfold ArW; rw [Ar]; exact ⟨rfl, Nat.le_refl _, Nat.zero_le _, fun _ => rfl, fun h => absurd h (by omega)⟩⟩, by rw [smZ]; exact ⟨⟨hss, hzw⟩, trivial⟩⟩
  · obtain rfl : v3 = .slice (some ad) len cap := by simpa using hcs
    have hC : Tryz.prog.cellsOf 24 = 4 := by kernel_rfl
    obtain ⟨Y, hY, hall⟩ := T.list_ofT len (P := fun i (t : Tm) => ∃ a n c, W.cell? (ad.add (i * 4)) = some (.int .i64 (opT t)) ∧ W.cell? ((ad.add (i * 4)).add 1) = some (.string (nameT t)) ∧ W.cell? ((ad.add (i * 4)).add 2) = some (.int .i64 (numT t)) ∧ W.cell? ((ad.add (i * 4)).add 3) = some (.slice a n c) ∧ ArW W t a n c ∧ smZ t) (fun i hin => by
      have hq := hi i (by omega)
      rw [List.getElem?_eq_getElem (show i < elems.length by omega)] at hq
      obtain ⟨cs', h1, h2⟩ := Option.bind_eq_some_iff.1 hq
      rw [hC] at h1
      obtain ⟨_, hl2, hat⟩ := World.cells?_some h1
      obtain ⟨t, a, n', c, ⟨hf, hr⟩, hsm⟩ := ih n (by omega) _ _ h2
      subst hf
      exact ⟨t, a, n', c, by simpa [Addr.add] using hat 0 (by simp), hat 1 (by simp), hat 2 (by simp), hat 3 (by simp), hr, hsm⟩)
    refine ⟨.mk o s z Y, some ad, len, cap, ⟨rfl, ?_⟩, by rw [smZ]; exact ⟨⟨hss, hzw⟩, smZs_of fun k hk => by obtain ⟨_, _, _, _, _, _, _, _, h⟩ := hall k hk; exact h⟩⟩
    unfold ArW
    rw [Ar]
    refine ⟨hY.symm, hl, hmx, fun h => (by cases h), fun hn => ?_⟩
    obtain ⟨b, off, spot⟩ := ad
    have hspot : spot = none := by
      obtain ⟨_, _, _, h1, _⟩ := hall 0 (by omega)
      simpa [Addr.add] using World.cell?_spot h1
    subst hspot
    refine ⟨b, off, rfl, ?_, rw_at.2 fun i hi2 => ?_⟩
    · obtain ⟨_, _, _, h1, _⟩ := hall 0 (by omega)
      rw [Go.WideShapes.add_plain] at h1
      exact World.block_lt_of_cell? _ _ h1
    · obtain ⟨a, n, c, h1, h2, h3, h4, h5, _⟩ := hall i hi2
      rw [Go.WideShapes.add_plain] at h1 h2 h3 h4
      rw [Go.WideShapes.add_plain] at h2 h3 h4
      exact ⟨a, n, c, h1, h2, h3, h4, h5⟩
set_option maxRecDepth 100000 in
theorem termZ_cells : ∀ (N fuel : Nat), fuel ≤ N → ∀ (cs : List Value) (x : DataW H × List MemPlace), DataW.trod enc Tryz.prog W 0 (fun _ => true) true fuel 24 cs = some x → ∃ t a n c, FourZ W cs t a n c
  | 0, fuel, hf, cs, x, h => by
    obtain rfl : fuel = 0 := by omega
    simp [DataW.trod] at h
  | N + 1, fuel, hf, cs, x, h => by
    obtain ⟨xs, n, hn, _, hcl, hxl, hi⟩ := DataW.trod_struct Tryz.underlying24 h
    have hC : Tryz.prog.cellsOf 24 = 4 := by kernel_rfl
    rw [hC] at hcl
    match cs, hcl with
    | [c0, c1, c2, c3], _ =>
      match xs, hxl with
      | [x0, x1, x2, x3], _ =>
        have g0 : DataW.trod enc Tryz.prog W 0 (fun _ => true) true n 3 (([c0, c1, c2, c3].drop 0).take (Tryz.prog.cellsOf 3)) = some x0 := hi 0 _ rfl
        have g1 : DataW.trod enc Tryz.prog W 0 (fun _ => true) true n 9 (([c0, c1, c2, c3].drop 1).take (Tryz.prog.cellsOf 9)) = some x1 := hi 1 _ rfl
        have g2 : DataW.trod enc Tryz.prog W 0 (fun _ => true) true n 2 (([c0, c1, c2, c3].drop 2).take (Tryz.prog.cellsOf 2)) = some x2 := hi 2 _ rfl
        have g3 : DataW.trod enc Tryz.prog W 0 (fun _ => true) true n 22 (([c0, c1, c2, c3].drop 3).take (Tryz.prog.cellsOf 22)) = some x3 := hi 3 _ rfl
        have z1 : Tryz.prog.cellsOf 2 = 1 := by kernel_rfl
        have z2 : Tryz.prog.cellsOf 9 = 1 := by kernel_rfl
        have z3 : Tryz.prog.cellsOf 22 = 1 := by kernel_rfl
        have z0 : Tryz.prog.cellsOf 3 = 1 := by kernel_rfl
        rw [z0] at g0
        rw [z1] at g2
        rw [z2] at g1
        rw [z3] at g3
        exact fourZ_of (fun m hm cs' x' h' => termZ_cells N m (by omega) cs' x' h') g0 g1 g2 g3
set_option maxRecDepth 100000 in
theorem termZ_open_all {r : Reach} {b0 : Nat} {v : Value} {d : DataW H} {p : List MemPlace} (hv : Value.okWide Tryz.prog W r b0 24 v) (h : DataW.Trod enc Tryz.prog W 0 (fun _ => true) true 24 v d p) :
    ∃ z : TmV, v = z.val ∧ ArW W z.t z.a z.n z.c ∧ smZ z.t := by
  obtain ⟨v0, v1, v2, v3, y0, y1, y2, y3, n, rfl, _, _, g0, g1, g2, g3⟩ := open_agg4 Tryz.underlying24 (by kernel_rfl) (by kernel_rfl) hv h
  obtain ⟨t, a, m, c, ⟨hf, hr⟩, hsm⟩ := fourZ_of (fun m hm cs' x' h' => termZ_cells m m (Nat.le_refl _) cs' x' h') g0 g1 g2 g3
  simp only [List.cons.injEq, and_true] at hf
  obtain ⟨rfl, rfl, rfl, rfl⟩ := hf
  exact ⟨⟨t, a, m, c⟩, rfl, hr, hsm⟩
end
mutual
/-- names, sorts and numbers of a size that they have in memory -/
def smC : Cl → Prop
  | .mk _ s so ts l => s.size ≤ maxLen ∧ so.size ≤ maxLen ∧ smZs ts ∧ smCs l
def smCs : List Cl → Prop
  | [] => True
  | t :: l => smC t ∧ smCs l
end
theorem smCs_of : ∀ {l : List Cl}, (∀ k (h : k < l.length), smC l[k]) → smCs l
  | [], _ => trivial
  | t :: l, h => by
    rw [smCs]
    exact ⟨h 0 (by simp), smCs_of fun k hk => h (k + 1) (by simpa using hk)⟩
section
variable {H : Type} {enc : TypeId × Value → H} {W : World} {sp : Nat → Bool}
def FiveZ (W : World) (cs : List Value) (t : Cl) (k : SS) (a : Option Addr) (n c : Nat) : Prop := FiveOk W cs t k a n c ∧ smC t
set_option maxRecDepth 100000 in
theorem termsZ_open {a : Option Addr} {n c fuel : Nat} {x : DataW H × List MemPlace} (h : DataW.trod enc Tryz.prog W 0 (fun _ => true) true fuel 22 [.slice a n c] = some x) :
    ∃ X : List Tm, TsW W a n c X ∧ smZs X := by
  rcases DataW.trod_slice Tryz.underlying22 h with h0 | ⟨ad, len, cap, elems, rest, m, hn, hcs, _, _, hl, hmx, hlen, hi, _⟩
  · have h1 : Value.slice a n c = .slice none 0 0 := by simpa using h0.1
    injection h1 with e1 e2 e3
    subst e1 e2 e3
    exact ⟨[], TsW.nil _, by rw [smZs]; trivial⟩
  · have h1 : Value.slice a n c = .slice (some ad) len cap := by simpa using hcs
    injection h1 with e1 e2 e3
    subst e1 e2 e3
    have hC : Tryz.prog.cellsOf 24 = 4 := by kernel_rfl
    obtain ⟨Y, hY, hall⟩ := T.list_ofT n (P := fun i (q : Tm) => ∃ a n c, W.cell? (ad.add (i * 4)) = some (.int .i64 (opT q)) ∧ W.cell? ((ad.add (i * 4)).add 1) = some (.string (nameT q)) ∧ W.cell? ((ad.add (i * 4)).add 2) = some (.int .i64 (numT q)) ∧ W.cell? ((ad.add (i * 4)).add 3) = some (.slice a n c) ∧ ArW W q a n c ∧ smZ q) (fun i hin => by
      have hq := hi i (by omega)
      rw [List.getElem?_eq_getElem (show i < elems.length by omega)] at hq
      obtain ⟨cs', h1, h2⟩ := Option.bind_eq_some_iff.1 hq
      rw [hC] at h1
      obtain ⟨_, hl2, hat⟩ := World.cells?_some h1
      obtain ⟨t, a, n', c, ⟨hf, hr⟩, hsm⟩ := termZ_cells m m (Nat.le_refl _) _ _ h2
      subst hf
      exact ⟨t, a, n', c, by simpa [Addr.add] using hat 0 (by simp), hat 1 (by simp), hat 2 (by simp), hat 3 (by simp), hr, hsm⟩)
    refine ⟨Y, ⟨hY.symm, hl, hmx, fun h => (by cases h), fun hn => ?_⟩, smZs_of fun k hk => by obtain ⟨_, _, _, _, _, _, _, _, h⟩ := hall k hk; exact h⟩
    obtain ⟨b, off, spot⟩ := ad
    have hspot : spot = none := by
      obtain ⟨_, _, _, h1, _⟩ := hall 0 (by omega)
      simpa [Addr.add] using World.cell?_spot h1
    subst hspot
    refine ⟨b, off, rfl, ?_, rw_at.2 fun i hi2 => ?_⟩
    · obtain ⟨_, _, _, h1, _⟩ := hall 0 (by omega)
      rw [Go.WideShapes.add_plain] at h1
      exact World.block_lt_of_cell? _ _ h1
    · obtain ⟨a, n, c, h1, h2, h3, h4, h5, _⟩ := hall i hi2
      rw [Go.WideShapes.add_plain] at h1 h2 h3 h4
      rw [Go.WideShapes.add_plain] at h2 h3 h4
      exact ⟨a, n, c, h1, h2, h3, h4, h5⟩
set_option maxRecDepth 100000 in
theorem fiveZ_of {v0 v1 v2 v3 v4 : Value} {n0 n1 n2 n3 n4 : Nat} {y0 y1 y2 y3 y4 : DataW H × List MemPlace}
    (ih : ∀ m, m ≤ n4 → ∀ (cs : List Value) (x : DataW H × List MemPlace), DataW.trod enc Tryz.prog W 0 (fun _ => true) true m 33 cs = some x → ∃ t k a n c, FiveZ W cs t k a n c)
    (g0 : DataW.trod enc Tryz.prog W 0 (fun _ => true) true n0 3 [v0] = some y0) (g1 : DataW.trod enc Tryz.prog W 0 (fun _ => true) true n1 9 [v1] = some y1)
    (g2 : DataW.trod enc Tryz.prog W 0 (fun _ => true) true n2 9 [v2] = some y2) (g3 : DataW.trod enc Tryz.prog W 0 (fun _ => true) true n3 22 [v3] = some y3) (g4 : DataW.trod enc Tryz.prog W 0 (fun _ => true) true n4 31 [v4] = some y4) :
    ∃ t k a n c, FiveZ W [v0, v1, v2, v3, v4] t k a n c := by
  obtain ⟨o, e0, _, _⟩ := DataW.trod_int (k := .i64) Tryz.underlying3 g0
  obtain ⟨s, e1, _, hs1⟩ := DataW.trod_string Tryz.underlying9 g1
  obtain ⟨z, e2, _, hs2⟩ := DataW.trod_string Tryz.underlying9 g2
  obtain rfl : v0 = .int .i64 o := by simpa using e0
  obtain rfl : v1 = .string s := by simpa using e1
  obtain rfl : v2 = .string z := by simpa using e2
  obtain ⟨ka, kn, kc, rfl⟩ : ∃ ka kn kc, v3 = .slice ka kn kc := by
    rcases DataW.trod_slice Tryz.underlying22 g3 with h0 | ⟨ad, len, cap, elems, rest, n, hn, hcs, _⟩
    · exact ⟨none, 0, 0, by simpa using h0.1⟩
    · exact ⟨some ad, len, cap, by simpa using hcs⟩
  obtain ⟨ts, hts, hsm⟩ := termsZ_open (enc := enc) (W := W) (a := ka) (n := kn) (c := kc) g3
  rcases DataW.trod_slice Tryz.underlying31 g4 with h0 | ⟨ad, len, cap, elems, rest, n, hn, hcs, _, _, hl, hmx, hlen, hi, _⟩
  · obtain rfl : v4 = .slice none 0 0 := by simpa using h0.1
    exact ⟨.mk o s z ts [], ⟨ka, kn, kc⟩, none, 0, 0, ⟨rfl, by unfold ArWC; rw [ArC]; exact ⟨hts, rfl, Nat.le_refl _, Nat.zero_le _, fun _ => rfl, fun h => absurd h (by omega)⟩⟩, by rw [smC, smCs]; exact ⟨hs1, hs2, hsm, trivial⟩⟩
  · obtain rfl : v4 = .slice (some ad) len cap := by simpa using hcs
    have hC : Tryz.prog.cellsOf 33 = 5 := by kernel_rfl
    obtain ⟨Y, hY, hall⟩ := T.list_ofT len (P := fun i (t : Cl) => ∃ k a n c, W.cell? (ad.add (i * 5)) = some (.int .i64 (opC t)) ∧ W.cell? ((ad.add (i * 5)).add 1) = some (.string (nmC t)) ∧ W.cell? ((ad.add (i * 5)).add 2) = some (.string (soC t)) ∧ W.cell? ((ad.add (i * 5)).add 3) = some (.slice (SS.a k) (SS.n k) (SS.c k)) ∧ W.cell? ((ad.add (i * 5)).add 4) = some (.slice a n c) ∧ ArWC W t k a n c ∧ smC t) (fun i hin => by
      have hq := hi i (by omega)
      rw [List.getElem?_eq_getElem (show i < elems.length by omega)] at hq
      obtain ⟨cs', h1, h2⟩ := Option.bind_eq_some_iff.1 hq
      rw [hC] at h1
      obtain ⟨_, hl2, hat⟩ := World.cells?_some h1
      obtain ⟨t, k, a, n', c, ⟨hf, hr⟩, hsc⟩ := ih n (by omega) _ _ h2
      subst hf
      exact ⟨t, k, a, n', c, by simpa [Addr.add] using hat 0 (by simp), hat 1 (by simp), hat 2 (by simp), hat 3 (by simp), hat 4 (by simp), hr, hsc⟩)
    refine ⟨.mk o s z ts Y, ⟨ka, kn, kc⟩, some ad, len, cap, ⟨rfl, ?_⟩, by rw [smC]; exact ⟨hs1, hs2, hsm, smCs_of fun k hk => by obtain ⟨_, _, _, _, _, _, _, _, _, _, h⟩ := hall k hk; exact h⟩⟩
    unfold ArWC
    rw [ArC]
    refine ⟨hts, hY.symm, hl, hmx, fun h => (by cases h), fun hn => ?_⟩
    obtain ⟨b, off, spot⟩ := ad
    have hspot : spot = none := by
      obtain ⟨_, _, _, _, h1, _⟩ := hall 0 (by omega)
      simpa [Addr.add] using World.cell?_spot h1
    subst hspot
    refine ⟨b, off, rfl, ?_, rwc_at.2 fun i hi2 => ?_⟩
    · obtain ⟨_, _, _, _, h1, _⟩ := hall 0 (by omega)
      rw [Go.WideShapes.add_plain] at h1
      exact World.block_lt_of_cell? _ _ h1
    · obtain ⟨k, a, n, c, h1, h2, h3, h4, h5, h6, _⟩ := hall i hi2
      rw [Go.WideShapes.add_plain] at h1 h2 h3 h4 h5
      rw [Go.WideShapes.add_plain] at h2 h3 h4 h5
      exact ⟨k, a, n, c, h1, h2, h3, h4, h5, h6⟩
set_option maxRecDepth 100000 in
theorem claimZ_cells : ∀ (N fuel : Nat), fuel ≤ N → ∀ (cs : List Value) (x : DataW H × List MemPlace), DataW.trod enc Tryz.prog W 0 (fun _ => true) true fuel 33 cs = some x → ∃ t k a n c, FiveZ W cs t k a n c
  | 0, fuel, hf, cs, x, h => by
    obtain rfl : fuel = 0 := by omega
    simp [DataW.trod] at h
  | N + 1, fuel, hf, cs, x, h => by
    obtain ⟨xs, n, hn, _, hcl, hxl, hi⟩ := DataW.trod_struct Tryz.underlying33 h
    have hC : Tryz.prog.cellsOf 33 = 5 := by kernel_rfl
    rw [hC] at hcl
    match cs, hcl with
    | [c0, c1, c2, c3, c4], _ =>
      match xs, hxl with
      | [x0, x1, x2, x3, x4], _ =>
        have g0 : DataW.trod enc Tryz.prog W 0 (fun _ => true) true n 3 (([c0, c1, c2, c3, c4].drop 0).take (Tryz.prog.cellsOf 3)) = some x0 := hi 0 _ rfl
        have g1 : DataW.trod enc Tryz.prog W 0 (fun _ => true) true n 9 (([c0, c1, c2, c3, c4].drop 1).take (Tryz.prog.cellsOf 9)) = some x1 := hi 1 _ rfl
        have g2 : DataW.trod enc Tryz.prog W 0 (fun _ => true) true n 9 (([c0, c1, c2, c3, c4].drop 2).take (Tryz.prog.cellsOf 9)) = some x2 := hi 2 _ rfl
        have g3 : DataW.trod enc Tryz.prog W 0 (fun _ => true) true n 22 (([c0, c1, c2, c3, c4].drop 3).take (Tryz.prog.cellsOf 22)) = some x3 := hi 3 _ rfl
        have g4 : DataW.trod enc Tryz.prog W 0 (fun _ => true) true n 31 (([c0, c1, c2, c3, c4].drop 4).take (Tryz.prog.cellsOf 31)) = some x4 := hi 4 _ rfl
        have z2 : Tryz.prog.cellsOf 9 = 1 := by kernel_rfl
        have z3 : Tryz.prog.cellsOf 22 = 1 := by kernel_rfl
        have z4 : Tryz.prog.cellsOf 31 = 1 := by kernel_rfl
        have z0 : Tryz.prog.cellsOf 3 = 1 := by kernel_rfl
        rw [z0] at g0
        rw [z2] at g1 g2
        rw [z3] at g3
        rw [z4] at g4
        exact fiveZ_of (fun m hm cs' x' h' => claimZ_cells N m (by omega) cs' x' h') g0 g1 g2 g3 g4

set_option maxRecDepth 100000 in
theorem claimZ_open_all {r : Reach} {b0 : Nat} {v : Value} {d : DataW H} {p : List MemPlace} (hv : Value.okWide Tryz.prog W r b0 33 v) (h : DataW.Trod enc Tryz.prog W 0 (fun _ => true) true 33 v d p) :
    ∃ z : ClV, v = z.val ∧ ArWC W z.t z.k z.a z.n z.c ∧ smC z.t := by
  obtain ⟨v0, v1, v2, v3, v4, y0, y1, y2, y3, y4, n, rfl, g0, g1, g2, g3, g4⟩ := open_agg5C Tryz.underlying33 (by kernel_rfl) (by kernel_rfl) hv h
  obtain ⟨t, k, a, m, c, ⟨hf, hr⟩, hsc⟩ := fiveZ_of (fun m hm cs' x' h' => claimZ_cells m m (Nat.le_refl _) cs' x' h') g0 g1 g2 g3 g4
  simp only [List.cons.injEq, and_true] at hf
  obtain ⟨rfl, rfl, rfl, rfl, rfl⟩ := hf
  exact ⟨⟨t, k, a, m, c⟩, rfl, hr, hsc⟩
end
end Go.Proofs.YtcigeclnbhcohaaGreatDoor.Sh
