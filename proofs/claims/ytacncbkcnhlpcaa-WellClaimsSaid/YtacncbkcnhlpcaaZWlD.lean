/-
  What is proved: the mathematics of a claim's sorts: what its parts make of it; what a right claim's parts are.
-/
import Derived.Test.YtacncbkcnhlpcaaZWlW
import Derived.Test.YtacncbkcnhlpcaaZRgtM
namespace Go.Proofs.Ytacncbkcnhlpcaa.Wl
open Go.RowKit L T C
open Sgn (Core hasN findC)
set_option linter.unusedVariables false
set_option linter.unusedSimpArgs false

theorem wlC_mk (S : List ByteArray) (K : List Core) (V : List Vr) (B : List ByteArray) (c : Cl) : wlC S K V B c = if (wlTs K V B 0 (tsC c)).1 ≠ 0 then .bad (wlTs K V B 0 (tsC c)).1 (wlTs K V B 0 (tsC c)).2.1 else
    if ((opC c == 11 || opC c == 12) && !rangeB S (soC c)) = true then .bad 11 [] else
    if (wlCs S K V (if (opC c == 11 || opC c == 12) = true then B ++ [soC c] else B) (tsC c).length (subC c)).1 ≠ 0 then .bad (wlCs S K V (if (opC c == 11 || opC c == 12) = true then B ++ [soC c] else B) (tsC c).length (subC c)).1 (wlCs S K V (if (opC c == 11 || opC c == 12) = true then B ++ [soC c] else B) (tsC c).length (subC c)).2 else wantC K (opC c) (nmC c) (wlTs K V B 0 (tsC c)).2.2 := by
  cases c; rw [wlC]; rfl
theorem wlCs_all {S : List ByteArray} {K : List Core} {V : List Vr} {B : List ByteArray} : ∀ {l : List Cl} (k : Nat), (∀ t ∈ l, (wlC S K V B t).e = 0) → wlCs S K V B k l = (0, [])
  | [], k, _ => by rw [wlCs]
  | t :: l, k, h => by
    have ih := wlCs_all (l := l) (k + 1) fun x hx => h x (List.mem_cons_of_mem _ hx)
    rw [wlCs, if_neg (by rw [h t (by simp)]; simp), ih]
theorem wlCs_bad {S : List ByteArray} {K : List Core} {V : List Vr} {B : List ByteArray} : ∀ {l : List Cl} (k i : Nat) {t : Cl}, l[i]? = some t → (wlC S K V B t).e ≠ 0 → (∀ j x, j < i → l[j]? = some x → (wlC S K V B x).e = 0) → wlCs S K V B k l = ((wlC S K V B t).e, ((k + i : Nat) : Int) :: (wlC S K V B t).way)
  | [], k, i, t, h, _, _ => by simp at h
  | x :: l, k, 0, t, h, he, _ => by
    injection h with h
    subst h
    rw [wlCs, if_pos he, Nat.add_zero]
  | x :: l, k, i + 1, t, h, he, ha => by
    have h0 := ha 0 x (by omega) rfl
    have ih := wlCs_bad (l := l) (k + 1) i (by simpa using h) he fun j y hj hy => ha (j + 1) y (by omega) (by simpa using hy)
    rw [wlCs, if_neg (by rw [h0]; simp), ih]
    rw [show k + 1 + i = k + (i + 1) by omega]
/-- what the terms' sorts have to be, and the error -/
def wantA (K : List Core) (o : Int) (s : ByteArray) (got : List ByteArray) : List ByteArray × Int :=
  if o = 3 then ((findC K s).2.1, fnE K s got.length true)
  else if o = 4 then ([got.headD ⟨#[]⟩, got.headD ⟨#[]⟩], 0)
  else if o = 5 then ([sInt, sInt], 0)
  else ([], 0)
theorem wantC_eq (K : List Core) (o : Int) (s : ByteArray) (got : List ByteArray) :
    wantC K o s got = if (wantA K o s got).2 ≠ 0 then .bad (wantA K o s got).2 [] else askW got (wantA K o s got).1 ⟨#[]⟩ := by
  unfold wantC wantA
  by_cases h3 : o = 3
  · rw [if_pos h3, if_pos h3]
    unfold fnE
    cases h1 : hasN K s <;> cases h2 : (findC K s).2.2.toList == sBool.toList <;> simp <;> (try (split <;> simp_all))
  rw [if_neg h3, if_neg h3]
  by_cases h4 : o = 4
  · rw [if_pos h4, if_pos h4]; simp
  rw [if_neg h4, if_neg h4]
  by_cases h5 : o = 5
  · rw [if_pos h5, if_pos h5]; simp
  rw [if_neg h5, if_neg h5]
  unfold askW
  rw [diff_nil]; simp
theorem rights_zero : ∀ {l : List Tm}, rightsE l = 0 → ∀ t ∈ l, rightE t = 0
  | [], _, t, h => by cases h
  | x :: l, h, t, ht => by
    rw [rightsE] at h
    by_cases hx : rightE x ≠ 0
    · rw [if_pos hx] at h; exact absurd h hx
    · rw [if_neg hx] at h
      rcases List.mem_cons.1 ht with rfl | ht
      · exact Classical.not_not.1 hx
      · exact rights_zero h t ht
theorem cparts_zero : ∀ {l : List Cl}, cpartsE l = 0 → ∀ t ∈ l, cpartE t = 0
  | [], _, t, h => by cases h
  | x :: l, h, t, ht => by
    rw [cpartsE] at h
    by_cases hx : cpartE x ≠ 0
    · rw [if_pos hx] at h; exact absurd h hx
    · rw [if_neg hx] at h
      rcases List.mem_cons.1 ht with rfl | ht
      · exact Classical.not_not.1 hx
      · exact cparts_zero h t ht
theorem right_partT {t : Tm} (h : rightE t = 0) : partE t = 0 := by
  unfold rightE at h
  split at h
  · cases h
  · split at h
    · cases h
    · exact h
/-- what a right part of a claim is -/
theorem cpart_parts {c : Cl} (h : cpartE c = 0) : (opC c = 4 ∨ opC c = 5 → (tsC c).length = 2) ∧ (¬ opC c = 3 → ¬ opC c = 4 → ¬ opC c = 5 → (tsC c).length = 0) ∧ (tsC c).length ≤ 8 ∧ (∀ t ∈ tsC c, rightE t = 0) ∧ ∀ x ∈ subC c, cpartE x = 0 := by
  rw [cpartE_mk] at h
  by_cases hf : formC (opC c) (nmC c) (soC c) = true
  · rw [if_pos hf] at h; cases h
  rw [if_neg hf] at h
  by_cases ha : arityC (opC c) (tsC c).length (subC c).length = true
  · rw [if_pos ha] at h; cases h
  rw [if_neg ha] at h
  by_cases hr : rightsE (tsC c) ≠ 0
  · rw [if_pos hr] at h; exact absurd h hr
  rw [if_neg hr] at h
  have hr0 := rights_zero (Classical.not_not.1 hr)
  have hc0 := cparts_zero h
  generalize opC c = o at *
  generalize (tsC c).length = n at *
  generalize (subC c).length = m at *
  unfold arityC wantT at ha
  by_cases h3 : o = 3
  · subst h3
    have hn : n ≤ 8 := by
      refine Nat.not_lt.1 fun hlt => ha ?_
      rw [if_pos rfl, decide_eq_true hlt]; rfl
    exact ⟨fun h => by omega, fun h => absurd rfl h, hn, hr0, hc0⟩
  · rw [if_neg h3] at ha
    by_cases h45 : o = 4 ∨ o = 5
    · rw [if_pos h45] at ha
      have hn : n = 2 := by
        refine Classical.not_not.1 fun hne => ha ?_
        have : (n != 2) = true := by simpa using hne
        rw [this]; rfl
      exact ⟨fun _ => hn, fun _ h4 h5 => by omega, by omega, hr0, hc0⟩
    · rw [if_neg h45] at ha
      have hn : n = 0 := by
        refine Classical.not_not.1 fun hne => ha ?_
        have : (n != 0) = true := by simpa using hne
        rw [this]; rfl
      exact ⟨fun h => absurd h h45, fun _ _ _ => hn, by omega, hr0, hc0⟩
/-- a right part's wanted sorts are as many as it has terms -/
theorem wantA_len {K : List Core} {c : Cl} {got : List ByteArray} (h : cpartE c = 0) (hg : got.length = (tsC c).length) (he : (wantA K (opC c) (nmC c) got).2 = 0) : (wantA K (opC c) (nmC c) got).1.length = got.length := by
  obtain ⟨h45, h0, _⟩ := cpart_parts h
  unfold wantA at he ⊢
  by_cases h3 : opC c = 3
  · rw [if_pos h3] at he ⊢
    simp only at he ⊢
    unfold fnE at he
    split at he
    · cases he
    · split at he
      · cases he
      · rename_i h; exact Classical.not_not.1 h
  rw [if_neg h3] at he ⊢
  by_cases h4 : opC c = 4
  · rw [if_pos h4]; rw [hg, h45 (.inl h4)]; rfl
  rw [if_neg h4]
  by_cases h5 : opC c = 5
  · rw [if_pos h5]; rw [hg, h45 (.inr h5)]; rfl
  rw [if_neg h5, hg, h0 h3 h4 h5]; rfl
end Go.Proofs.Ytacncbkcnhlpcaa.Wl
