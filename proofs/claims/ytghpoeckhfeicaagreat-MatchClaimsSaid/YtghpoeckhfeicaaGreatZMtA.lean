/-
  What is proved: package match's map of what stands for each name, and its set of names: made, written, asked, kept.
-/
import Derived.Test.YtghpoeckhfeicaaGreatZMtM
import Derived.Test.YtghpoeckhfeicaaGreatBM
import Derived.Maps.Own
import Derived.Maps.Views
import Derived.Carry
namespace Go.Proofs.YtghpoeckhfeicaaGreat.Mt
open Go.RowKit Go.Maps Go.WideMaps L T U
set_option linter.unusedVariables false
set_option linter.unusedSimpArgs false

/-- the map in block g reads as the first terms of l -/
def MapM (B : Nat) (w : World) (g : Nat) (l : List Pr) : Prop :=
  ∃ n D, w.ownsMap Tryz.prog 9 RV g n D ∧ IsMap D ∧ n ≤ l.length ∧ ∀ s : ByteArray, (getU l s = none → ∀ z, D.atKey (.string s.data.toList) z = z) ∧
    (∀ t, getU l s = some t → ∃ a n c, (∀ z, D.atKey (.string s.data.toList) z = .held (tmV (opT t) (nameT t) (numT t) a n c)) ∧ Ar B w t a n c)
theorem MapM.made (B : Nat) (w : World) : MapM B (w.alloc (.map #[] 0)) w.heap.size [] :=
  ⟨0, _, World.ownsMap_made _ _ _ _, ⟨[], rfl⟩, Nat.le_refl _, fun s => ⟨fun _ z => rfl, fun t h => by simp [getU] at h⟩⟩
theorem MapM.lt {B : Nat} {w : World} {g : Nat} {l : List Pr} (h : MapM B w g l) : g < w.heap.size := by
  obtain ⟨n, D, ho, _⟩ := h; exact ho.lt
/-- kept, where its block and all blocks below B are -/
theorem MapM.keep {B : Nat} {w w' : World} {g : Nat} {l : List Pr} (h : MapM B w g l) (hg : w'.heap[g]? = w.heap[g]?) (hb : Below B w w') : MapM B w' g l := by
  obtain ⟨n, D, ⟨es, ck, h1, h2, h3, h4⟩, hD, hn, hs⟩ := h
  refine ⟨n, D, ⟨es, ck, hg.trans h1, h2, h3, h4⟩, hD, hn, fun s => ⟨(hs s).1, fun t ht => ?_⟩⟩
  obtain ⟨a, n', c, e1, e2⟩ := (hs s).2 t ht
  exact ⟨a, n', c, e1, Ar.bel hb _ e2⟩
theorem MapM.b {B : Nat} {w w' : World} {g : Nat} {l : List Pr} (h : MapM B w g l) (hB : B ≤ w.heap.size) (hb : Below w.heap.size w w') : MapM B w' g l :=
  h.keep (hb.block g h.lt) (hb.mono hB)
set_option maxRecDepth 100000 in
/-- written -/
theorem MapM.put {B : Nat} {w : World} {g : Nat} {l : List Pr} (h : MapM B w g l) (hBg : B ≤ g) (hBw : B ≤ w.heap.size) (hl : l.length < maxLen) (p : Pr) (a : Option Addr) (n c : Nat) (hp : p.nm.size ≤ maxLen) (hA : Ar B w p.t a n c) :
    ∃ w', (Instr.mapUpdate 69 (.map (some g)) (.string p.nm) (.agg #[.int .i64 (opT p.t), .string (nameT p.t), .int .i64 (numT p.t), .slice a n c])).run Tryz.prog w = .ok () w' ∧ MapM B w' g (p :: l) ∧ w.grownBy w' (some g) ∧ Below B w w' := by
  obtain ⟨k, D, ho, hD, hk, hs⟩ := h
  have hlt := ho.lt
  obtain ⟨w', h1, h2, h3⟩ := ho.update lawS Tryz.underlying69 (by omega) (key := .string p.nm) (val := .agg #[.int .i64 (opT p.t), .string (nameT p.t), .int .i64 (numT p.t), .slice a n c]) (keyOf_string_mk Tryz.underlying9 hp) (d := .held (tmV (opT p.t) (nameT p.t) (numT p.t) a n c)) (ps := []) rfl
  have hb : Below B w w' := (Below.refl B w).grown h3 hBw (fun q hq => by injection hq with hq; omega)
  refine ⟨w', h1, ⟨k + 1, _, h2, hD.put _ _, by simp; omega, fun s => ?_⟩, h3, hb⟩
  by_cases e : p.nm.toList == s.toList
  · have es : p.nm = s := eqS_iff.1 e
    subst es
    refine ⟨fun hn => by rw [getU, if_pos e] at hn; simp at hn, fun t ht => ?_⟩
    rw [getU, if_pos e] at ht
    injection ht with ht
    subst ht
    exact ⟨a, n, c, fun z => atKey_put_same hD (by trivial) _ _, Ar.bel hb _ hA⟩
  · have hne : (Lit.string s.data.toList) ≠ (Lit.string p.nm.data.toList) := fun h => e (by
      injection h with h
      exact eqS_iff.2 (ByteArray.ext (Array.toList_inj.1 h)).symm)
    rw [getU, if_neg e]
    refine ⟨fun hn z => by rw [atKey_put_other hne]; exact (hs s).1 hn z, fun t ht => ?_⟩
    obtain ⟨a', n', c', e1, e2⟩ := (hs s).2 t ht
    exact ⟨a', n', c', fun z => by rw [atKey_put_other hne]; exact e1 z, Ar.bel hb _ e2⟩
theorem zeroM (w : World) : (zeroValue 31).run Tryz.prog w = .ok (.agg #[.int .i64 0, .string ⟨#[]⟩, .int .i64 0, .slice none 0 0]) w := by kernel_rfl
set_option maxRecDepth 100000 in
/-- asked: found -/
theorem MapM.find {B : Nat} {w : World} {g : Nat} {l : List Pr} (h : MapM B w g l) (s : ByteArray) (hs : s.size ≤ maxLen) (t : Tm) (ht : getU l s = some t) :
    ∃ a n c, (Instr.lookup 69 (.map (some g)) (.string s) true).run Tryz.prog w = .ok (.tuple #[.agg #[.int .i64 (opT t), .string (nameT t), .int .i64 (numT t), .slice a n c], .bool true]) w ∧ Ar B w t a n c := by
  obtain ⟨n, D, ⟨es, ck, h1, h2, h3, h4⟩, hD, hn, hss⟩ := h
  obtain ⟨a, m, c, e1, e2⟩ := (hss s).2 t ht
  subst h4
  rcases Maps.fit_look (t := 69) true lawS Tryz.underlying69 (zeroM w) h1 h2 (keyOf_string_mk Tryz.underlying9 hs) with ⟨_, _, hz⟩ | ⟨e0, y, _, _, hrun, hR, hat, _⟩
  · have := (e1 .nil).symm.trans (hz .nil)
    cases this
  · have h5 := (e1 .nil).symm.trans (hat .nil)
    unfold RV at hR
    injection hR with hR
    rw [← hR] at h5
    injection h5 with h5
    rw [← h5] at hrun
    exact ⟨a, m, c, hrun, e2⟩
set_option maxRecDepth 100000 in
/-- asked: not there -/
theorem MapM.miss {B : Nat} {w : World} {g : Nat} {l : List Pr} (h : MapM B w g l) (s : ByteArray) (hs : s.size ≤ maxLen) (ht : getU l s = none) :
    (Instr.lookup 69 (.map (some g)) (.string s) true).run Tryz.prog w = .ok (.tuple #[.agg #[.int .i64 0, .string ⟨#[]⟩, .int .i64 0, .slice none 0 0], .bool false]) w := by
  obtain ⟨n, D, ⟨es, ck, h1, h2, h3, h4⟩, hD, hn, hss⟩ := h
  have e1 := (hss s).1 ht
  subst h4
  rcases Maps.fit_look (t := 69) true lawS Tryz.underlying69 (zeroM w) h1 h2 (keyOf_string_mk Tryz.underlying9 hs) with ⟨hrun, _, _⟩ | ⟨e0, y, _, _, hrun, hR, hat, _⟩
  · exact hrun
  · have h5 := (e1 .nil).symm.trans (hat .nil)
    unfold RV at hR
    injection hR with hR
    rw [← hR] at h5
    cases h5
theorem MapM.congr {B : Nat} {w : World} {g : Nat} {l m : List Pr} (h : MapM B w g l) (hg : ∀ s, getU m s = getU l s) (hl : l.length ≤ m.length) : MapM B w g m := by
  obtain ⟨n, D, h1, h2, h3, h4⟩ := h
  exact ⟨n, D, h1, h2, Nat.le_trans h3 hl, fun s => by rw [hg s]; exact h4 s⟩
set_option maxRecDepth 100000 in
/-- asked without the second answer: found -/
theorem MapM.find1 {B : Nat} {w : World} {g : Nat} {l : List Pr} (h : MapM B w g l) (s : ByteArray) (hs : s.size ≤ maxLen) (t : Tm) (ht : getU l s = some t) :
    ∃ a n c, (Instr.lookup 69 (.map (some g)) (.string s) false).run Tryz.prog w = .ok (.agg #[.int .i64 (opT t), .string (nameT t), .int .i64 (numT t), .slice a n c]) w ∧ Ar B w t a n c := by
  obtain ⟨n, D, ⟨es, ck, h1, h2, h3, h4⟩, hD, hn, hss⟩ := h
  obtain ⟨a, m, c, e1, e2⟩ := (hss s).2 t ht
  subst h4
  rcases Maps.fit_look (t := 69) false lawS Tryz.underlying69 (zeroM w) h1 h2 (keyOf_string_mk Tryz.underlying9 hs) with ⟨_, _, hz⟩ | ⟨e0, y, _, _, hrun, hR, hat, _⟩
  · have := (e1 .nil).symm.trans (hz .nil)
    cases this
  · have h5 := (e1 .nil).symm.trans (hat .nil)
    unfold RV at hR
    injection hR with hR
    rw [← hR] at h5
    injection h5 with h5
    rw [← h5] at hrun
    exact ⟨a, m, c, hrun, e2⟩
/-! the set of the names -/
/-- the map in block g tells which texts are among some -/
def SetM (w : World) (g : Nat) (X : List ByteArray) : Prop :=
  ∃ n D, w.ownsMap Tryz.prog 9 RV g n D ∧ IsMap D ∧ n ≤ X.length ∧ ∀ s : ByteArray, (hasS X s = false → ∀ z, D.atKey (.string s.data.toList) z = z) ∧ (hasS X s = true → ∀ z, D.atKey (.string s.data.toList) z = .held (.bool true))
theorem SetM.made (w : World) : SetM (w.alloc (.map #[] 0)) w.heap.size [] :=
  ⟨0, _, World.ownsMap_made _ _ _ _, ⟨[], rfl⟩, Nat.le_refl _, fun s => ⟨fun _ z => rfl, fun h => by simp [hasS] at h⟩⟩
theorem SetM.lt {w : World} {g : Nat} {X : List ByteArray} (h : SetM w g X) : g < w.heap.size := by
  obtain ⟨n, D, ho, _⟩ := h; exact ho.lt
theorem SetM.keep {w w' : World} {g : Nat} {X : List ByteArray} (h : SetM w g X) (hg : w'.heap[g]? = w.heap[g]?) : SetM w' g X := by
  obtain ⟨n, D, ⟨es, ck, h1, h2, h3, h4⟩, hD, hn, hs⟩ := h
  exact ⟨n, D, ⟨es, ck, hg.trans h1, h2, h3, h4⟩, hD, hn, hs⟩
theorem SetM.b {w w' : World} {g : Nat} {X : List ByteArray} (h : SetM w g X) (hb : Below w.heap.size w w') : SetM w' g X := h.keep (hb.block g h.lt)
set_option maxRecDepth 100000 in
theorem SetM.put {w : World} {g : Nat} {X : List ByteArray} (h : SetM w g X) (hl : X.length < maxLen) (s : ByteArray) (hs : s.size ≤ maxLen) :
    ∃ w', (Instr.mapUpdate 72 (.map (some g)) (.string s) (.bool true)).run Tryz.prog w = .ok () w' ∧ SetM w' g (X ++ [s]) ∧ w.grownBy w' (some g) := by
  obtain ⟨k, D, ho, hD, hk, hss⟩ := h
  obtain ⟨w', h1, h2, h3⟩ := ho.update lawS Tryz.underlying72 (by omega) (key := .string s) (val := .bool true) (keyOf_string_mk Tryz.underlying9 hs) (d := .held (.bool true)) (ps := []) rfl
  have hap : ∀ x, hasS (X ++ [s]) x = (hasS X x || (s.toList == x.toList)) := fun x => by unfold hasS; rw [List.any_append]; simp
  refine ⟨w', h1, ⟨k + 1, _, h2, hD.put _ _, by simp; omega, fun x => ?_⟩, h3⟩
  rw [hap]
  by_cases e : (s.toList == x.toList) = true
  · have es : s = x := eqS_iff.1 e
    subst es
    exact ⟨fun hn => (by rw [e, Bool.or_true] at hn; cases hn), fun _ z => atKey_put_same hD (by trivial) _ _⟩
  · have hne : (Lit.string x.data.toList) ≠ (Lit.string s.data.toList) := fun h => e (by
      injection h with h
      exact eqS_iff.2 (ByteArray.ext (Array.toList_inj.1 h)).symm)
    have e' : (s.toList == x.toList) = false := by simpa using e
    rw [e', Bool.or_false]
    exact ⟨fun hn z => by rw [atKey_put_other hne]; exact (hss x).1 hn z, fun ht z => by rw [atKey_put_other hne]; exact (hss x).2 ht z⟩
theorem zeroB (w : World) : (zeroValue 4).run Tryz.prog w = .ok (.bool false) w := by kernel_rfl
set_option maxRecDepth 100000 in
theorem SetM.ask {w : World} {g : Nat} {X : List ByteArray} (h : SetM w g X) (s : ByteArray) (hs : s.size ≤ maxLen) :
    (Instr.lookup 72 (.map (some g)) (.string s) false).run Tryz.prog w = .ok (.bool (hasS X s)) w := by
  obtain ⟨n, D, ⟨es, ck, h1, h2, h3, h4⟩, hD, hn, hss⟩ := h
  subst h4
  cases hq : hasS X s with
  | true =>
    have e1 := (hss s).2 hq
    rcases Maps.fit_look (t := 72) false lawS Tryz.underlying72 (zeroB w) h1 h2 (keyOf_string_mk Tryz.underlying9 hs) with ⟨_, _, hz⟩ | ⟨e0, y, _, _, hrun, hR, hat, _⟩
    · have := (e1 .nil).symm.trans (hz .nil)
      cases this
    · have h5 := (e1 .nil).symm.trans (hat .nil)
      unfold RV at hR
      injection hR with hR
      rw [← hR] at h5
      injection h5 with h5
      rw [← h5] at hrun
      exact hrun
  | false =>
    have e1 := (hss s).1 hq
    rcases Maps.fit_look (t := 72) false lawS Tryz.underlying72 (zeroB w) h1 h2 (keyOf_string_mk Tryz.underlying9 hs) with ⟨hrun, _, _⟩ | ⟨e0, y, _, _, hrun, hR, hat, _⟩
    · exact hrun
    · have h5 := (e1 .nil).symm.trans (hat .nil)
      unfold RV at hR
      injection hR with hR
      rw [← hR] at h5
      cases h5
end Go.Proofs.YtghpoeckhfeicaaGreat.Mt
