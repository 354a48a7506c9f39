/-
  What is proved: the mathematics of promise 13.4: a term's sort stays, whatever terms of the same sorts are put for its variables.
-/
import Derived.Test.YtacncbkcnhlpcaaZWlD
import Derived.Test.YtacncbkcnhlpcaaBU
import Derived.Test.YtacncbkcnhlpcaaB2
namespace Go.Proofs.Ytacncbkcnhlpcaa.Wl
open Go.RowKit L T C
open U (sbT sbTs lfT lfTs getL getU Pr getU_mem)
open Sgn (Core hasN findC)
set_option linter.unusedVariables false
set_option linter.unusedSimpArgs false

theorem wlTs_zero {K : List Core} {V : List Vr} {B : List ByteArray} : ∀ {l : List Tm} {k : Nat}, (wlTs K V B k l).1 = 0 → ∀ t ∈ l, (wlT K V B t).e = 0
  | [], k, _, t, h => by cases h
  | x :: l, k, h, t, ht => by
    rw [wlTs] at h
    by_cases h1 : (wlT K V B x).e ≠ 0
    · rw [if_pos h1] at h; exact absurd h h1
    · rw [if_neg h1] at h
      by_cases h2 : (wlTs K V B (k + 1) l).1 ≠ 0
      · rw [if_pos h2] at h; exact absurd h h2
      · rcases List.mem_cons.1 ht with rfl | ht
        · exact Classical.not_not.1 h1
        · exact wlTs_zero (Classical.not_not.1 h2) t ht
/-! of what is well sorted in no binders, nothing is a number of a binder: the document's lift leaves it -/
mutual
theorem lf_same {K : List Core} {V : List Vr} : ∀ {t : Tm} {k : Int}, (wlT K V [] t).e = 0 → partE t = 0 → lfT k t = t
  | .mk o s z l, k, h, hp => by
    have hz := (part_parts hp).1
    have hpp := (part_parts hp).2.2.2.1
    rw [wlT] at h
    by_cases h1 : (wlTs K V [] 0 l).1 ≠ 0
    · rw [if_pos h1] at h; exact absurd h h1
    · rw [if_neg h1] at h
      have ih := lf_sames (k := k) (Classical.not_not.1 h1) hpp
      rw [lfT, ih]
      by_cases h2 : o = 2
      · subst h2
        have h0 : (0 : Int) ≤ z := hz rfl
        unfold opW at h
        rw [if_neg (by decide), if_pos rfl, if_pos (by show (0 : Int) ≤ z; exact h0)] at h
        cases h
      · rw [if_neg h2]
theorem lf_sames {K : List Core} {V : List Vr} : ∀ {l : List Tm} {k : Int} {j : Nat}, (wlTs K V [] j l).1 = 0 → (∀ t ∈ l, partE t = 0) → lfTs k l = l
  | [], k, j, h, _ => by rw [lfTs]
  | t :: l, k, j, h, hp => by
    rw [wlTs] at h
    by_cases h1 : (wlT K V [] t).e ≠ 0
    · rw [if_pos h1] at h; exact absurd h h1
    · rw [if_neg h1] at h
      by_cases h2 : (wlTs K V [] (j + 1) l).1 ≠ 0
      · rw [if_pos h2] at h; exact absurd h h2
      · rw [lfTs, lf_same (Classical.not_not.1 h1) (hp t (by simp)), lf_sames (Classical.not_not.1 h2) fun x hx => hp x (List.mem_cons_of_mem _ hx)]
end
def FitF (K : List Core) (V : List Vr) (B : List ByteArray) (f : ByteArray → Option Tm) : Prop := ∀ s u, f s = some u → (wlT K V B u).e = 0 ∧ sortV V s = some (wlT K V B u).so
mutual
theorem put_sort {K : List Core} {V : List Vr} {B : List ByteArray} {f : ByteArray → Option Tm} (hf : FitF K V B f) : ∀ {t : Tm}, (wlT K V B t).e = 0 → (wlT K V B (sbT f t)).e = 0 ∧ (wlT K V B (sbT f t)).so = (wlT K V B t).so
  | .mk o s z l, h => by
    have h0 := h
    rw [wlT] at h
    by_cases h1 : (wlTs K V B 0 l).1 ≠ 0
    · rw [if_pos h1] at h; exact absurd h h1
    · rw [if_neg h1] at h
      have ih := put_sorts (k := 0) hf (Classical.not_not.1 h1)
      have e0 : wlT K V B (.mk o s z l) = opW K V B o s z (wlTs K V B 0 l).2.2 := by rw [wlT, if_neg h1]
      rw [sbT]
      by_cases ho : o = 1
      · rw [if_pos ho]
        cases hs : f s with
        | none =>
          simp only
          rw [wlT, if_neg (by rw [ih.1]; simp), ih.2, e0]
          exact ⟨h, rfl⟩
        | some u =>
          simp only
          obtain ⟨h3, h4⟩ := hf s u hs
          refine ⟨h3, ?_⟩
          rw [e0]
          unfold opW
          rw [if_pos ho, h4]
          rfl
      · rw [if_neg ho]
        simp only
        rw [wlT, if_neg (by rw [ih.1]; simp), ih.2, e0]
        exact ⟨h, rfl⟩
theorem put_sorts {K : List Core} {V : List Vr} {B : List ByteArray} {f : ByteArray → Option Tm} (hf : FitF K V B f) : ∀ {l : List Tm} {k : Nat}, (wlTs K V B k l).1 = 0 → (wlTs K V B k (sbTs f l)).1 = 0 ∧ (wlTs K V B k (sbTs f l)).2.2 = (wlTs K V B k l).2.2
  | [], k, h => by rw [sbTs, wlTs]; exact ⟨rfl, rfl⟩
  | t :: l, k, h => by
    rw [wlTs] at h
    by_cases h1 : (wlT K V B t).e ≠ 0
    · rw [if_pos h1] at h; exact absurd h h1
    · rw [if_neg h1] at h
      by_cases h2 : (wlTs K V B (k + 1) l).1 ≠ 0
      · rw [if_pos h2] at h; exact absurd h h2
      · obtain ⟨a1, a2⟩ := put_sort hf (Classical.not_not.1 h1)
        obtain ⟨b1, b2⟩ := put_sorts (k := k + 1) hf (Classical.not_not.1 h2)
        rw [sbTs, wlTs, if_neg (by rw [a1]; simp), if_neg (by rw [b1]; simp), wlTs, if_neg h1, if_neg h2, a2, b2]
        exact ⟨rfl, rfl⟩
end
theorem sbTs_length (f : ByteArray → Option Tm) : ∀ l : List Tm, (sbTs f l).length = l.length
  | [] => by rw [sbTs]
  | t :: l => by rw [sbTs, List.length_cons, List.length_cons, sbTs_length f l]
mutual
theorem put_part {f : ByteArray → Option Tm} (hf : ∀ s u, f s = some u → partE u = 0) : ∀ {t : Tm}, partE t = 0 → partE (sbT f t) = 0
  | .mk o s z l, h => by
    rw [partE] at h
    rw [sbT]
    have key : partE (.mk o s z (sbTs f l)) = 0 := by
      rw [partE, sbTs_length]
      split
      · rename_i h1; rw [if_pos h1] at h; exact h
      · rename_i h1
        rw [if_neg h1] at h
        split
        · rename_i h2; rw [if_pos h2] at h; exact h
        · rename_i h2
          rw [if_neg h2] at h
          exact put_parts hf h
    by_cases ho : o = 1
    · rw [if_pos ho]
      cases hs : f s with
      | none => exact key
      | some u => exact hf s u hs
    · rw [if_neg ho]; exact key
theorem put_parts {f : ByteArray → Option Tm} (hf : ∀ s u, f s = some u → partE u = 0) : ∀ {l : List Tm}, partsE l = 0 → partsE (sbTs f l) = 0
  | [], h => by rw [sbTs]; exact h
  | t :: l, h => by
    rw [partsE] at h
    rw [sbTs, partsE]
    by_cases h1 : partE t ≠ 0
    · rw [if_pos h1] at h; exact absurd h h1
    · rw [if_neg h1] at h
      rw [if_neg (by rw [put_part hf (Classical.not_not.1 h1)]; simp)]
      exact put_parts hf h
end
mutual
theorem put_size {f : ByteArray → Option Tm} {m : Nat} (hf : ∀ s u, f s = some u → size u ≤ m) : ∀ t : Tm, size (sbT f t) ≤ size t * (m + 1)
  | .mk o s z l => by
    have ih := put_sizes hf l
    rw [sbT, size]
    have key : size (.mk o s z (sbTs f l)) ≤ (1 + sizes l) * (m + 1) := by
      rw [size, Nat.add_mul]; omega
    by_cases ho : o = 1
    · rw [if_pos ho]
      cases hs : f s with
      | none => exact key
      | some u =>
        have := hf s u hs
        simp only
        rw [Nat.add_mul]; omega
    · rw [if_neg ho]; exact key
theorem put_sizes {f : ByteArray → Option Tm} {m : Nat} (hf : ∀ s u, f s = some u → size u ≤ m) : ∀ l : List Tm, sizes (sbTs f l) ≤ sizes l * (m + 1)
  | [] => by rw [sbTs, sizes]; omega
  | t :: l => by
    have h1 := put_size hf t
    have h2 := put_sizes hf l
    rw [sbTs, sizes, sizes, Nat.add_mul]; omega
end
/-- a pair that may be put in -/
def Fit (K : List Core) (V : List Vr) (p : Pr) : Prop := rightE p.t = 0 ∧ (wlT K V [] p.t).e = 0 ∧ sortV V p.nm = some (wlT K V [] p.t).so ∧ size p.t ≤ 30
theorem sortV_eq {V : List Vr} {s s' : ByteArray} (h : (s.toList == s'.toList) = true) : sortV V s = sortV V s' := by
  have e : s = s' := eqS_iff.1 h
  rw [e]
theorem getU_name : ∀ {l : List Pr} {s : ByteArray} {u : Tm}, getU l s = some u → ∃ p ∈ l, p.t = u ∧ (p.nm.toList == s.toList) = true
  | [], s, u, h => by simp [getU] at h
  | p :: l, s, u, h => by
    rw [getU] at h
    by_cases e : (p.nm.toList == s.toList) = true
    · rw [if_pos e] at h; injection h with h; exact ⟨p, by simp, h, e⟩
    · rw [if_neg e] at h; obtain ⟨q, hq, e2⟩ := getU_name h; exact ⟨q, by simp [hq], e2⟩
theorem fit_get {K : List Core} {V : List Vr} {l : List Pr} (hl : ∀ p ∈ l, Fit K V p) {s : ByteArray} {u : Tm} (h : getL l 0 s = some u) : ∃ p ∈ l, p.t = u ∧ (p.nm.toList == s.toList) = true := by
  unfold getL at h
  cases hg : getU l s with
  | none => rw [hg] at h; cases h
  | some v =>
    rw [hg] at h
    obtain ⟨p, hp, h1, h2⟩ := getU_name hg
    obtain ⟨a1, a2, a3, _⟩ := hl p hp
    have h3 : lfT 0 v = u := by simpa using h
    rw [← h1, lf_same a2 (right_partT a1)] at h3
    exact ⟨p, hp, h3, h2⟩
/-- the sort stays, and nothing is wrong but the depth or the size -/
theorem puts_stay {K : List Core} {V : List Vr} {l : List Pr} (hl : ∀ p ∈ l, Fit K V p) {t : Tm} (hr : rightE t = 0) (ht : (wlT K V [] t).e = 0) :
    rightE (sbT (getL l 0) t) = 6 ∨ rightE (sbT (getL l 0) t) = 2 ∨ (rightE (sbT (getL l 0) t) = 0 ∧ (wlT K V [] (sbT (getL l 0) t)).e = 0 ∧ (wlT K V [] (sbT (getL l 0) t)).so = (wlT K V [] t).so) := by
  have hp : partE (sbT (getL l 0) t) = 0 := put_part (fun s u h => by
    obtain ⟨p, hp, h1, _⟩ := fit_get hl h
    rw [← h1]; exact right_partT (hl p hp).1) (right_partT hr)
  have hs := put_sort (f := getL l 0) (fun s u h => by
    obtain ⟨p, hp, h1, h2⟩ := fit_get hl h
    obtain ⟨a1, a2, a3, _⟩ := hl p hp
    rw [← h1, ← sortV_eq h2]
    exact ⟨a2, a3⟩) ht
  unfold rightE
  split
  · exact .inl rfl
  · split
    · exact .inr (.inl rfl)
    · exact .inr (.inr ⟨hp, hs⟩)
theorem puts_size {K : List Core} {V : List Vr} {l : List Pr} (hl : ∀ p ∈ l, Fit K V p) {t : Tm} (ht : size t ≤ 60) : size (sbT (getL l 0) t) ≤ 4096 := by
  have := put_size (f := getL l 0) (m := 30) (fun s u h => by
    obtain ⟨p, hp, h1, _⟩ := fit_get hl h
    rw [← h1]; exact (hl p hp).2.2.2) t
  have h2 : size t * 31 ≤ 60 * 31 := Nat.mul_le_mul_right _ ht
  omega
end Go.Proofs.Ytacncbkcnhlpcaa.Wl
