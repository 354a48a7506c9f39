/-
  What is proved: mathematics of signatures: what follows for one into which a sort, a function, is put.
-/
import Derived.Test.YtakcbpmdjdadnaaSgnR
namespace Go.Proofs.Ytakcbpmdjdadnaa.Sgn
open Go.RowKit L Srt
set_option linter.unusedVariables false
set_option linter.unusedSimpArgs false

theorem has_app (S : List ByteArray) (s x : ByteArray) : hasS (S ++ [s]) x = (hasS S x || (s.toList == x.toList)) := by
  unfold hasS; rw [List.any_append]; simp
theorem has_last (S : List ByteArray) (s : ByteArray) : hasS (S ++ [s]) s = true := by rw [has_app, eqS_refl]; simp
theorem known_app {S : List ByteArray} {x : ByteArray} (s : ByteArray) (h : knownB S x = true) : knownB (S ++ [s]) x = true := by
  rw [known_or] at h ⊢
  rw [has_app]
  cases h1 : x.toList == [66, 111, 111, 108] <;> cases h2 : x.toList == [73, 110, 116] <;> simp_all
theorem check_ok {S : List ByteArray} {C : Core} : checkE S C = 0 ↔ nmB C.1 = true ∧ C.2.1.length ≤ 8 ∧ C.2.1.any (unfitB S) = false ∧ knownB S C.2.2 = true := by
  unfold checkE
  cases h1 : nmB C.1
  · simp
  · by_cases h2 : 8 < C.2.1.length
    · simp [h2]; intro h; omega
    · cases h3 : C.2.1.any (unfitB S)
      · cases h4 : knownB S C.2.2 <;> simp [h2] <;> omega
      · simp [h2]
theorem check_app {S : List ByteArray} {C : Core} (s : ByteArray) (h : checkE S C = 0) : checkE (S ++ [s]) C = 0 := by
  obtain ⟨h1, h2, h3, h4⟩ := check_ok.1 h
  refine check_ok.2 ⟨h1, h2, ?_, known_app s h4⟩
  rw [List.any_eq_false] at h3 ⊢
  intro x hx
  have := h3 x hx
  unfold unfitB at this ⊢
  simp only [Bool.or_eq_true, Bool.not_eq_true', not_or, Bool.not_eq_false] at this ⊢
  exact ⟨this.1, known_app s this.2⟩
theorem rgtK_cons {S : List ByteArray} {P : List Core} {C : Core} {l : List Core} (h : rgtK S P (C :: l) = 0) : checkE S C = 0 ∧ hasN P C.1 = false ∧ rgtK S (P ++ [C]) l = 0 := by
  rw [rgtK] at h
  split at h
  · exact absurd h (by assumption)
  · split at h
    · omega
    · exact ⟨by rename_i h1 _; simpa using h1, by rename_i _ h2; simpa using h2, h⟩
theorem rgtK_app {S : List ByteArray} (s : ByteArray) : ∀ {K P : List Core}, rgtK S P K = 0 → rgtK (S ++ [s]) P K = 0
  | [], P, _ => rfl
  | C :: l, P, h => by
    obtain ⟨h1, h2, h3⟩ := rgtK_cons h
    rw [rgtK, if_neg (by simp [check_app s h1]), if_neg (by simp [h2])]
    exact rgtK_app s h3
theorem rgtK_snoc {S : List ByteArray} {C : Core} (hC : checkE S C = 0) : ∀ {K P : List Core}, rgtK S P K = 0 → hasN (P ++ K) C.1 = false → rgtK S P (K ++ [C]) = 0
  | [], P, _, hn => by
    rw [List.append_nil] at hn
    rw [List.nil_append, rgtK, if_neg (by simp [hC]), if_neg (by simp [hn])]; rfl
  | D :: l, P, h, hn => by
    obtain ⟨h1, h2, h3⟩ := rgtK_cons h
    rw [List.cons_append, rgtK, if_neg (by simp [h1]), if_neg (by simp [h2])]
    exact rgtK_snoc hC h3 (by rw [List.append_assoc]; exact hn)
theorem rgtK_all {S : List ByteArray} : ∀ {K P : List Core}, rgtK S P K = 0 → ∀ {k : Nat} {D : Core}, K[k]? = some D → hasN P D.1 = false
| [], P, _, k, D, hk => by simp at hk
| C :: l, P, h, 0, D, hk => by
  obtain ⟨h1, h2, h3⟩ := rgtK_cons h
  have : C = D := by simpa using hk
  rw [← this]; exact h2
| C :: l, P, h, k + 1, D, hk => by
  obtain ⟨h1, h2, h3⟩ := rgtK_cons h
  have h4 := rgtK_all h3 (show l[k]? = some D by simpa using hk)
  unfold hasN at h4 ⊢
  rw [List.any_append] at h4
  simp at h4 ⊢
  exact h4.1
theorem rgtK_apart {S : List ByteArray} : ∀ {K P : List Core}, rgtK S P K = 0 → ∀ {k : Nat} {D : Core}, K[k]? = some D → hasN (K.take k) D.1 = false
  | [], P, _, k, D, hk => by simp at hk
  | C :: l, P, h, 0, D, hk => rfl
  | C :: l, P, h, k + 1, D, hk => by
    obtain ⟨h1, h2, h3⟩ := rgtK_cons h
    have hk2 : l[k]? = some D := by simpa using hk
    have e : rgtK S (P ++ [C]) l = 0 := h3
    have h4 := rgtK_apart h3 hk2
    have h5 := rgtK_all h3 hk2
    rw [List.take_succ_cons]
    unfold hasN at h4 h5 ⊢
    rw [List.any_cons, h4]
    rw [List.any_append] at h5
    simp at h5 ⊢
    exact h5.2
theorem sign_ok {S : List ByteArray} {K : List Core} : signE S K = 0 ↔ rightV S = 0 ∧ K.length ≤ 256 ∧ rgtK S [] K = 0 := by
  unfold signE
  by_cases h1 : rightV S = 0
  · by_cases h2 : 256 < K.length
    · simp [h1, h2]; omega
    · simp [h1, h2]; omega
  · simp [h1]
theorem sort_ok' {S : List ByteArray} {K : List Core} {s : ByteArray} (h : sortE S K s = 0) : putE S s = 0 ∧ hasN K s = false := by
  unfold sortE at h
  split at h
  · exact absurd h (by assumption)
  · split at h
    · omega
    · exact ⟨by rename_i h1 _; simpa using h1, by rename_i _ h2; simpa using h2⟩
theorem fun_ok' {S : List ByteArray} {K : List Core} {C : Core} (h : funE S K C = 0) : checkE S C = 0 ∧ hasN K C.1 = false ∧ K.length < 256 := by
  unfold funE at h
  split at h
  · exact absurd h (by assumption)
  · split at h
    · omega
    · split at h
      · omega
      · rename_i h1 h2 h3
        simp at h1 h2
        exact ⟨h1, h2.1, by omega⟩
theorem sign_sort {S : List ByteArray} {K : List Core} {s : ByteArray} (h : signE S K = 0) (hp : sortE S K s = 0) : signE (S ++ [s]) K = 0 := by
  obtain ⟨h1, h2, h3⟩ := sign_ok.1 h
  exact sign_ok.2 ⟨right_put h1 (sort_ok' hp).1, h2, rgtK_app s h3⟩
theorem sign_fun {S : List ByteArray} {K : List Core} {C : Core} (h : signE S K = 0) (hp : funE S K C = 0) : signE S (K ++ [C]) = 0 := by
  obtain ⟨h1, h2, h3⟩ := sign_ok.1 h
  obtain ⟨p1, p2, p3⟩ := fun_ok' hp
  exact sign_ok.2 ⟨h1, by simp; omega, rgtK_snoc p1 h3 (by rw [List.nil_append]; exact p2)⟩
/-- the first function of a name, where none before has it -/
theorem find_at {K : List Core} {k : Nat} {D : Core} (h : K[k]? = some D) (hn : hasN (K.take k) D.1 = false) : findC K D.1 = D ∧ hasN K D.1 = true := by
  obtain ⟨hk, rfl⟩ := List.getElem?_eq_some_iff.1 h
  have hi : idxK K K[k].1 = k := by
    unfold idxK
    rw [List.findIdx_eq hk]
    refine ⟨eqS_refl _, fun j hj => ?_⟩
    cases hc : K[j].1.toList == K[k].1.toList with
    | false => rfl
    | true =>
      unfold hasN at hn
      rw [List.any_eq_false] at hn
      exact absurd hc (by simpa using hn K[j] (List.mem_take_iff_getElem.2 ⟨j, by omega, rfl⟩))
  refine ⟨?_, ?_⟩
  · unfold findC; rw [hi, h]; rfl
  · unfold hasN; rw [List.any_eq_true]
    exact ⟨K[k], List.getElem_mem hk, eqS_refl _⟩
theorem find_last {K : List Core} {C : Core} (h : hasN K C.1 = false) : findC (K ++ [C]) C.1 = C ∧ hasN (K ++ [C]) C.1 = true :=
  find_at (k := K.length) (by simp) (by rw [List.take_left]; exact h)
theorem find_old {S : List ByteArray} {K : List Core} {k : Nat} {D : Core} (C : Core) (h : rgtK S [] K = 0) (hk : K[k]? = some D) : findC (K ++ [C]) D.1 = D ∧ hasN (K ++ [C]) D.1 = true := by
  have hl := (List.getElem?_eq_some_iff.1 hk).1
  exact find_at (k := k) (by rw [List.getElem?_append_left hl]; exact hk) (by rw [List.take_append_of_le_length (by omega)]; exact rgtK_apart h hk)
end Go.Proofs.Ytakcbpmdjdadnaa.Sgn
