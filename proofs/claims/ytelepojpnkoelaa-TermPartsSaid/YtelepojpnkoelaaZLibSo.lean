/-
  What is proved: stable orders of places, merges of two sorted rows, rotations by swaps (plain mathematics, for the library's stable sort).
-/
import Derived.WalkKit
namespace Go.Proofs.Ytelepojpnkoelaa.L
set_option linter.unusedVariables false
set_option linter.unusedSimpArgs false

/-- a comparison: a total preorder -/
structure Cmp3 (c : Nat → Nat → Int) : Prop where
  anti : ∀ i j, c j i = - c i j
  trans : ∀ i j k, c i j ≤ 0 → c j k ≤ 0 → c i k ≤ 0
/-- ahead of, or alike and of a smaller place -/
def lx (c : Nat → Nat → Int) (i j : Nat) : Prop := c i j < 0 ∨ (c i j = 0 ∧ i < j)
theorem lx_le {c : Nat → Nat → Int} {i j : Nat} (h : lx c i j) : c i j ≤ 0 := by rcases h with h | h <;> omega
theorem Cmp3.refl {c : Nat → Nat → Int} (h : Cmp3 c) (i : Nat) : c i i = 0 := by have := h.anti i i; omega
theorem lx_trans {c : Nat → Nat → Int} (h : Cmp3 c) {i j k : Nat} (h1 : lx c i j) (h2 : lx c j k) : lx c i k := by
  have hle := h.trans i j k (lx_le h1) (lx_le h2)
  by_cases h0 : c i k < 0
  · exact .inl h0
  · have e : c i k = 0 := by omega
    have a1 := h.anti i k
    have a2 := h.trans j k i (lx_le h2) (by omega)
    have a3 := h.anti i j
    have b2 := h.trans k i j (by omega) (lx_le h1)
    have b3 := h.anti j k
    rcases h1 with h1 | ⟨h1, h1'⟩
    · omega
    · rcases h2 with h2 | ⟨h2, h2'⟩
      · omega
      · exact .inr ⟨e, by omega⟩
theorem lx_irrefl {c : Nat → Nat → Int} (h : Cmp3 c) (i : Nat) : ¬ lx c i i := by rintro (h1 | ⟨_, h1⟩); have := h.refl i; omega; omega
theorem lx_ge {c : Nat → Nat → Int} (h : Cmp3 c) {x y : Nat} (h1 : ¬ c y x < 0) (h2 : x < y) : lx c x y := by
  have := h.anti x y
  by_cases h0 : c x y < 0
  · exact .inl h0
  · exact .inr ⟨by omega, h2⟩
def Srt (c : Nat → Nat → Int) (l : List Nat) : Prop := l.Pairwise (lx c)
theorem srt_app {c : Nat → Nat → Int} {A B : List Nat} (h1 : Srt c A) (h2 : Srt c B) (h : ∀ x ∈ A, ∀ y ∈ B, lx c x y) : Srt c (A ++ B) := List.pairwise_append.2 ⟨h1, h2, h⟩
theorem srt_take {c : Nat → Nat → Int} {A : List Nat} (h : Srt c A) (k : Nat) : Srt c (A.take k) := h.sublist (List.take_sublist _ _)
theorem srt_drop {c : Nat → Nat → Int} {A : List Nat} (h : Srt c A) (k : Nat) : Srt c (A.drop k) := h.sublist (List.drop_sublist _ _)
theorem srt_td {c : Nat → Nat → Int} {A : List Nat} (h : Srt c A) (k : Nat) : ∀ x ∈ A.take k, ∀ y ∈ A.drop k, lx c x y := by
  have := List.pairwise_append.1 (show (A.take k ++ A.drop k).Pairwise (lx c) by rw [List.take_append_drop]; exact h)
  exact this.2.2
theorem srt_at {c : Nat → Nat → Int} {A : List Nat} (h : Srt c A) {i j x y : Nat} (hi : A[i]? = some x) (hj : A[j]? = some y) (hij : i < j) : lx c x y := by
  obtain ⟨h1, rfl⟩ := List.getElem?_eq_some_iff.1 hi
  obtain ⟨h2, rfl⟩ := List.getElem?_eq_some_iff.1 hj
  exact List.pairwise_iff_getElem.1 h i j h1 h2 hij
/-- one place put among sorted ones, from the left -/
theorem put_left {c : Nat → Nat → Int} (hc : Cmp3 c) {B : List Nat} {x k : Nat} (hs : Srt c B) (hx : ∀ y ∈ B, x < y) (h1 : ∀ y ∈ B.take k, c y x < 0) (h2 : ∀ y ∈ B.drop k, ¬ c y x < 0) :
    Srt c (B.take k ++ x :: B.drop k) :=
  srt_app (srt_take hs k) (List.pairwise_cons.2 ⟨fun y hy => lx_ge hc (h2 y hy) (hx y (List.drop_subset _ _ hy)), srt_drop hs k⟩) fun y hy z hz => by
    rcases List.mem_cons.1 hz with rfl | hz
    · exact .inl (h1 y hy)
    · exact srt_td hs k y hy z hz
/-- from the right -/
theorem put_right {c : Nat → Nat → Int} (hc : Cmp3 c) {A : List Nat} {y k : Nat} (hs : Srt c A) (hy : ∀ x ∈ A, x < y) (h1 : ∀ x ∈ A.take k, ¬ c y x < 0) (h2 : ∀ x ∈ A.drop k, c y x < 0) :
    Srt c (A.take k ++ y :: A.drop k) :=
  srt_app (srt_take hs k) (List.pairwise_cons.2 ⟨fun x hx => .inl (h2 x hx), srt_drop hs k⟩) fun x hx z hz => by
    rcases List.mem_cons.1 hz with rfl | hz
    · exact lx_ge hc (h1 x hx) (hy x (List.take_subset _ _ hx))
    · exact srt_td hs k x hx z hz
theorem put_mid {c : Nat → Nat → Int} {B : List Nat} {x k : Nat} (hs : Srt c B) (h1 : ∀ y ∈ B.take k, lx c y x) (h2 : ∀ y ∈ B.drop k, lx c x y) : Srt c (B.take k ++ x :: B.drop k) :=
  srt_app (srt_take hs k) (List.pairwise_cons.2 ⟨h2, srt_drop hs k⟩) fun y hy z hz => by
    rcases List.mem_cons.1 hz with rfl | hz
    · exact h1 y hy
    · exact srt_td hs k y hy z hz
theorem put_perm (B : List Nat) (x k : Nat) : (B.take k ++ x :: B.drop k).Perm (x :: B) := by
  refine List.perm_middle.trans ?_
  rw [List.take_append_drop]
/-! both rows cut -/
theorem cut_lr {c : Nat → Nat → Int} (hc : Cmp3 c) {A B : List Nat} {s e : Nat} (hA : Srt c A) (hB : Srt c B) (hi : ∀ x ∈ A, ∀ y ∈ B, x < y)
    (h : s = 0 ∨ B.length ≤ e ∨ ∃ x y, A[s - 1]? = some x ∧ B[e]? = some y ∧ ¬ c y x < 0) : ∀ x ∈ A.take s, ∀ y ∈ B.drop e, lx c x y := by
  intro x hx y hy
  rcases h with h | h | ⟨x', y', h1, h2, h3⟩
  · subst h; simp at hx
  · rw [List.drop_eq_nil_of_le h] at hy; cases hy
  · have hm := lx_ge hc h3 (hi x' (List.mem_of_getElem? h1) y' (List.mem_of_getElem? h2))
    obtain ⟨i, hi1⟩ := List.mem_iff_getElem?.1 hx
    obtain ⟨j, hj1⟩ := List.mem_iff_getElem?.1 hy
    rw [List.getElem?_drop] at hj1
    have hi2 : i < s := by
      have := (List.getElem?_eq_some_iff.1 hi1).1
      rw [List.length_take] at this; omega
    rw [List.getElem?_take_of_lt hi2] at hi1
    have a1 : x = x' ∨ lx c x x' := by
      by_cases e1 : i = s - 1
      · subst e1; rw [h1] at hi1; injection hi1 with hi1; exact .inl hi1.symm
      · exact .inr (srt_at hA hi1 h1 (by omega))
    have a2 : y' = y ∨ lx c y' y := by
      by_cases e1 : j = 0
      · subst e1; rw [Nat.add_zero, h2] at hj1; injection hj1 with hj1; exact .inl hj1
      · exact .inr (srt_at hB h2 hj1 (by omega))
    rcases a1 with rfl | a1
    · rcases a2 with rfl | a2
      · exact hm
      · exact lx_trans hc hm a2
    · rcases a2 with rfl | a2
      · exact lx_trans hc a1 hm
      · exact lx_trans hc a1 (lx_trans hc hm a2)
theorem cut_rl {c : Nat → Nat → Int} (hc : Cmp3 c) {A B : List Nat} {s e : Nat} (hA : Srt c A) (hB : Srt c B)
    (h : A.length ≤ s ∨ e = 0 ∨ ∃ x y, A[s]? = some x ∧ B[e - 1]? = some y ∧ c y x < 0) : ∀ y ∈ B.take e, ∀ x ∈ A.drop s, lx c y x := by
  intro y hy x hx
  rcases h with h | h | ⟨x', y', h1, h2, h3⟩
  · rw [List.drop_eq_nil_of_le h] at hx; cases hx
  · subst h; simp at hy
  · have hm : lx c y' x' := .inl h3
    obtain ⟨i, hi1⟩ := List.mem_iff_getElem?.1 hy
    obtain ⟨j, hj1⟩ := List.mem_iff_getElem?.1 hx
    rw [List.getElem?_drop] at hj1
    have hi2 : i < e := by
      have := (List.getElem?_eq_some_iff.1 hi1).1
      rw [List.length_take] at this; omega
    rw [List.getElem?_take_of_lt hi2] at hi1
    have a1 : y = y' ∨ lx c y y' := by
      by_cases e1 : i = e - 1
      · subst e1; rw [h2] at hi1; injection hi1 with hi1; exact .inl hi1.symm
      · exact .inr (srt_at hB hi1 h2 (by omega))
    have a2 : x' = x ∨ lx c x' x := by
      by_cases e1 : j = 0
      · subst e1; rw [Nat.add_zero, h1] at hj1; injection hj1 with hj1; exact .inl hj1
      · exact .inr (srt_at hA h1 hj1 (by omega))
    rcases a1 with rfl | a1
    · rcases a2 with rfl | a2
      · exact hm
      · exact lx_trans hc hm a2
    · rcases a2 with rfl | a2
      · exact lx_trans hc a1 hm
      · exact lx_trans hc a1 (lx_trans hc hm a2)
theorem merged {c : Nat → Nat → Int} {A B M1 M2 : List Nat} {s e : Nat} (p1 : M1.Perm (A.take s ++ B.take e)) (p2 : M2.Perm (A.drop s ++ B.drop e)) (s1 : Srt c M1) (s2 : Srt c M2)
    (hA : Srt c A) (hB : Srt c B) (h1 : ∀ x ∈ A.take s, ∀ y ∈ B.drop e, lx c x y) (h2 : ∀ y ∈ B.take e, ∀ x ∈ A.drop s, lx c y x) : Srt c (M1 ++ M2) ∧ (M1 ++ M2).Perm (A ++ B) := by
  refine ⟨srt_app s1 s2 fun x hx y hy => ?_, ?_⟩
  · rcases List.mem_append.1 (p1.mem_iff.1 hx) with hx | hx <;> rcases List.mem_append.1 (p2.mem_iff.1 hy) with hy | hy
    · exact srt_td hA s x hx y hy
    · exact h1 x hx y hy
    · exact h2 x hx y hy
    · exact srt_td hB e x hx y hy
  · refine (p1.append p2).trans ?_
    have e1 : (A.take s ++ B.take e ++ (A.drop s ++ B.drop e)).Perm (A.take s ++ A.drop s ++ (B.take e ++ B.drop e)) := by
      rw [List.append_assoc, List.append_assoc]
      refine List.Perm.append_left _ ?_
      rw [← List.append_assoc, ← List.append_assoc]
      exact List.Perm.append_right _ List.perm_append_comm
    rw [List.take_append_drop, List.take_append_drop] at e1
    exact e1
/-! swaps -/
def swapL (a b : Nat) (z : List Nat) : Nat → List Nat
  | 0 => z
  | k + 1 => (((swapL a b z k).set (a + k) ((swapL a b z k).getD (b + k) 0)).set (b + k) ((swapL a b z k).getD (a + k) 0))
theorem swapL_len (a b : Nat) (z : List Nat) : ∀ k, (swapL a b z k).length = z.length
  | 0 => rfl
  | k + 1 => by rw [swapL, List.length_set, List.length_set, swapL_len a b z k]
theorem set_mid (P S : List Nat) (x y : Nat) : (P ++ x :: S).set P.length y = P ++ y :: S := by rw [List.set_append_right _ _ (Nat.le_refl _), Nat.sub_self, List.set_cons_zero]
theorem swapL_row (P Q S : List Nat) : ∀ (k : Nat) (U1 U2 V1 V2 : List Nat), U1.length = k → V1.length = k → swapL P.length (P.length + (U1 ++ U2).length + Q.length) (P ++ (U1 ++ U2) ++ Q ++ (V1 ++ V2) ++ S) k = P ++ (V1 ++ U2) ++ Q ++ (U1 ++ V2) ++ S
  | 0, U1, U2, V1, V2, h1, h2 => by
    have e1 := List.eq_nil_of_length_eq_zero h1
    have e2 := List.eq_nil_of_length_eq_zero h2
    subst e1 e2
    rfl
  | k + 1, U1, U2, V1, V2, h1, h2 => by
    obtain ⟨U, u, rfl⟩ : ∃ U u, U1 = U ++ [u] := ⟨U1.dropLast, U1.getLast (by intro e; rw [e] at h1; cases h1), (List.dropLast_concat_getLast _).symm⟩
    obtain ⟨V, v, rfl⟩ : ∃ V v, V1 = V ++ [v] := ⟨V1.dropLast, V1.getLast (by intro e; rw [e] at h2; cases h2), (List.dropLast_concat_getLast _).symm⟩
    have hU : U.length = k := by simpa using h1
    have hV : V.length = k := by simpa using h2
    have ih := swapL_row P Q S k U (u :: U2) V (v :: V2) hU hV
    rw [swapL]
    have e0 : U ++ [u] ++ U2 = U ++ u :: U2 := by simp
    have e1 : V ++ [v] ++ V2 = V ++ v :: V2 := by simp
    rw [e0, e1, ih]
    have g1 : (P ++ (V ++ u :: U2) ++ Q ++ (U ++ v :: V2) ++ S).getD (P.length + k) 0 = u := by
      rw [List.getD_eq_getElem?_getD]
      rw [show P ++ (V ++ u :: U2) ++ Q ++ (U ++ v :: V2) ++ S = (P ++ V) ++ u :: (U2 ++ Q ++ (U ++ v :: V2) ++ S) by simp]
      rw [List.getElem?_append_right (by simp; omega)]
      simp [hV]
    have g2 : (P ++ (V ++ u :: U2) ++ Q ++ (U ++ v :: V2) ++ S).getD (P.length + (U ++ u :: U2).length + Q.length + k) 0 = v := by
      rw [List.getD_eq_getElem?_getD]
      rw [show P ++ (V ++ u :: U2) ++ Q ++ (U ++ v :: V2) ++ S = (P ++ (V ++ u :: U2) ++ Q ++ U) ++ v :: (V2 ++ S) by simp]
      rw [List.getElem?_append_right (by simp; omega)]
      have : P.length + (U ++ u :: U2).length + Q.length + k - (P ++ (V ++ u :: U2) ++ Q ++ U).length = 0 := by simp; omega
      rw [this]; rfl
    rw [g1, g2]
    have s1 : (P ++ (V ++ u :: U2) ++ Q ++ (U ++ v :: V2) ++ S).set (P.length + k) v = P ++ (V ++ v :: U2) ++ Q ++ (U ++ v :: V2) ++ S := by
      rw [show P ++ (V ++ u :: U2) ++ Q ++ (U ++ v :: V2) ++ S = (P ++ V) ++ u :: (U2 ++ Q ++ (U ++ v :: V2) ++ S) by simp]
      rw [show P.length + k = (P ++ V).length by simp [hV], set_mid]
      simp
    rw [s1]
    rw [show P ++ (V ++ v :: U2) ++ Q ++ (U ++ v :: V2) ++ S = (P ++ (V ++ v :: U2) ++ Q ++ U) ++ v :: (V2 ++ S) by simp]
    rw [show P.length + (U ++ u :: U2).length + Q.length + k = (P ++ (V ++ v :: U2) ++ Q ++ U).length by simp; omega, set_mid]
    simp
/-- two rows of one length change places -/
theorem swapL_all (P U Q V S : List Nat) (h : U.length = V.length) : swapL P.length (P.length + U.length + Q.length) (P ++ U ++ Q ++ V ++ S) U.length = P ++ V ++ Q ++ U ++ S := by
  have := swapL_row P Q S U.length U [] V [] rfl h.symm
  simpa using this
/-! of alike neighbours the first one -/
def runs (c : Nat → Nat → Int) : List Nat → List Nat
  | [] => []
  | [x] => [x]
  | x :: y :: l => if c x y = 0 then runs c (x :: l) else x :: runs c (y :: l)
termination_by l => l.length
end Go.Proofs.Ytelepojpnkoelaa.L
