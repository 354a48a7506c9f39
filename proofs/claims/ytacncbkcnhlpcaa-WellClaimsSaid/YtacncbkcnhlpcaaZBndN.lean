/-
  What is proved: lists of numbers in plain words: sorted and each once is put in one after another.
-/
import Derived.Test.YtacncbkcnhlpcaaZBndA
import Derived.Lib.SlicesCompact
namespace Go.Proofs.Ytacncbkcnhlpcaa.B
open Go.RowKit L T C
set_option linter.unusedVariables false
set_option linter.unusedSimpArgs false

/-- ahead of the first greater one -/
def insI (u : Int) : List Int → List Int
  | [] => [u]
  | x :: l => if u < x then u :: x :: l else x :: insI u l
def putL (X : List Int) (u : Int) : List Int := if u ∈ X then X else insI u X
theorem insI_len (u : Int) : ∀ X : List Int, (insI u X).length = X.length + 1
  | [] => rfl
  | x :: l => by rw [insI]; split <;> simp [insI_len u l]
theorem putL_len (X : List Int) (u : Int) : (putL X u).length ≤ X.length + 1 := by
  unfold putL; split
  · omega
  · rw [insI_len]; exact Nat.le_refl _
theorem mem_insI (u y : Int) : ∀ X : List Int, y ∈ insI u X ↔ y = u ∨ y ∈ X
  | [] => by simp [insI]
  | x :: l => by
    rw [insI]; split
    · simp
    · simp [mem_insI u y l]
      constructor
      · rintro (h | h | h)
        · exact .inr (.inl h)
        · exact .inl h
        · exact .inr (.inr h)
      · rintro (h | h | h)
        · exact .inr (.inl h)
        · exact .inl h
        · exact .inr (.inr h)
theorem mem_putL (X : List Int) (u y : Int) : y ∈ putL X u ↔ y = u ∨ y ∈ X := by
  unfold putL; split
  · rename_i h
    constructor
    · exact .inr
    · rintro (rfl | h')
      · exact h
      · exact h'
  · exact mem_insI u y X
abbrev Up (X : List Int) : Prop := X.Pairwise (· < ·)
theorem up_insI {u : Int} : ∀ {X : List Int}, Up X → u ∉ X → Up (insI u X)
  | [], _, _ => by simp [insI]
  | x :: l, h, hn => by
    rw [insI]
    have hx := List.pairwise_cons.1 h
    have hne : u ≠ x := fun e => hn (by simp [e])
    have hnl : u ∉ l := fun e => hn (by simp [e])
    split
    · rename_i hlt
      exact List.pairwise_cons.2 ⟨fun y hy => by
        rcases List.mem_cons.1 hy with rfl | hy
        · exact hlt
        · exact Int.lt_trans hlt (hx.1 y hy), h⟩
    · rename_i hge
      exact List.pairwise_cons.2 ⟨fun y hy => by
        rcases (mem_insI u y l).1 hy with rfl | hy
        · omega
        · exact hx.1 y hy, up_insI hx.2 hnl⟩
theorem up_putL {X : List Int} {u : Int} (h : Up X) : Up (putL X u) := by
  unfold putL; split
  · exact h
  · rename_i hn; exact up_insI h hn
theorem up_eq : ∀ {X Y : List Int}, Up X → Up Y → (∀ y, y ∈ X ↔ y ∈ Y) → X = Y
  | [], [], _, _, _ => rfl
  | [], y :: l, _, _, h => absurd ((h y).2 (by simp)) (by simp)
  | x :: l, [], _, _, h => absurd ((h x).1 (by simp)) (by simp)
  | x :: l, y :: m, hX, hY, h => by
    have h1 := List.pairwise_cons.1 hX
    have h2 := List.pairwise_cons.1 hY
    have e : x = y := by
      rcases List.mem_cons.1 ((h x).1 (by simp)) with e | hx
      · exact e
      · rcases List.mem_cons.1 ((h y).2 (by simp)) with e | hy
        · exact e.symm
        · have := h1.1 y hy; have := h2.1 x hx; omega
    subst e
    congr 1
    refine up_eq h1.2 h2.2 fun z => ?_
    constructor
    · intro hz
      rcases List.mem_cons.1 ((h z).1 (by simp [hz])) with e | h'
      · have := h1.1 z hz; omega
      · exact h'
    · intro hz
      rcases List.mem_cons.1 ((h z).2 (by simp [hz])) with e | h'
      · have := h2.1 z hz; omega
      · exact h'
/-- put in one after another -/
def puts (X : List Int) (Y : List Int) : List Int := Y.foldl putL X
theorem puts_up (Y : List Int) : ∀ {X : List Int}, Up X → Up (puts X Y) := by
  induction Y with
  | nil => exact fun h => h
  | cons y l ih => exact fun h => ih (up_putL h)
theorem mem_puts (Y : List Int) : ∀ (X : List Int) (z : Int), z ∈ puts X Y ↔ z ∈ X ∨ z ∈ Y := by
  induction Y with
  | nil => intro X z; simp [puts]
  | cons y l ih =>
    intro X z
    show z ∈ puts (putL X y) l ↔ _
    rw [ih, mem_putL, List.mem_cons]
    constructor
    · rintro ((h | h) | h)
      · exact .inr (.inl h)
      · exact .inl h
      · exact .inr (.inr h)
    · rintro (h | h | h)
      · exact .inl (.inr h)
      · exact .inl (.inl h)
      · exact .inr h
theorem puts_app (X Y Z : List Int) : puts X (Y ++ Z) = puts (puts X Y) Z := by unfold puts; rw [List.foldl_append]
theorem puts_len (Y : List Int) : ∀ X : List Int, (puts X Y).length ≤ X.length + Y.length := by
  induction Y with
  | nil => intro X; simp [puts]
  | cons y l ih =>
    intro X
    have h1 := ih (putL X y)
    have h2 := putL_len X y
    show (puts (putL X y) l).length ≤ _
    rw [List.length_cons]; omega
/-- what compacting a sorted list leaves -/
theorem compact_up (X : List Int) (hs : X.Pairwise (· ≤ ·)) : Up (Lib.compact X) ∧ ∀ y, y ∈ Lib.compact X ↔ y ∈ X := by
  have key : ∀ m, m ≤ X.length → Up (Lib.compactUpTo X.toArray m) ∧ (∀ y, y ∈ Lib.compactUpTo X.toArray m ↔ y ∈ X.take m) := by
    intro m
    induction m with
    | zero => intro _; simp [Lib.compactUpTo]
    | succ m ih =>
      intro hm
      obtain ⟨h1, h2⟩ := ih (by omega)
      rw [Lib.compactUpTo_succ]
      have hget : X.toArray[m]! = X[m]'(by omega) := by simp [show m < X.length by omega]
      have htk : X.take (m + 1) = X.take m ++ [X[m]'(by omega)] := by rw [List.take_add_one, List.getElem?_eq_getElem (by omega)]; rfl
      by_cases hk : Lib.keeps X.toArray m = true
      · rw [if_pos hk, hget, htk]
        have hlt : ∀ y ∈ X.take m, y < X[m]'(by omega) := by
          intro y hy
          obtain ⟨i, hi, rfl⟩ := List.mem_iff_getElem.1 hy
          rw [List.length_take] at hi
          rw [List.getElem_take]
          have hm0 : 0 < m := by omega
          have hle1 : X[i]'(by omega) ≤ X[m - 1]'(by omega) := by
            by_cases e : i = m - 1
            · subst e; exact Int.le_refl _
            · exact List.pairwise_iff_getElem.1 hs i (m - 1) (by omega) (by omega) (by omega)
          have hle2 := List.pairwise_iff_getElem.1 hs (m - 1) m (by omega) (by omega) (by omega)
          unfold Lib.keeps at hk
          have hk' := of_decide_eq_true hk
          rcases hk' with h0 | h0
          · omega
          · rw [hget] at h0
            have : X.toArray[m - 1]! = X[m - 1]'(by omega) := by simp [show m - 1 < X.length by omega]
            rw [this] at h0
            omega
        refine ⟨?_, fun y => by rw [List.mem_append, List.mem_append, h2 y]⟩
        refine List.pairwise_append.2 ⟨h1, by simp, fun a ha b hb => ?_⟩
        rw [List.mem_singleton] at hb
        subst hb
        exact hlt a ((h2 a).1 ha)
      · rw [if_neg hk, List.append_nil, htk]
        refine ⟨h1, fun y => ?_⟩
        rw [h2 y, List.mem_append, List.mem_singleton]
        refine ⟨Or.inl, fun h => ?_⟩
        rcases h with h | rfl
        · exact h
        · unfold Lib.keeps at hk
          have hk' : ¬ (m = 0 ∨ X.toArray[m]! ≠ X.toArray[m - 1]!) := fun e => hk (decide_eq_true e)
          have hm0 : m ≠ 0 := fun e => hk' (.inl e)
          have heq : X.toArray[m]! = X.toArray[m - 1]! := Decidable.byContradiction fun e => hk' (.inr e)
          rw [hget] at heq
          have : X.toArray[m - 1]! = X[m - 1]'(by omega) := by simp [show m - 1 < X.length by omega]
          rw [heq, this]
          exact List.mem_iff_getElem.2 ⟨m - 1, by rw [List.length_take]; omega, by rw [List.getElem_take]⟩
  have := key X.length (Nat.le_refl _)
  rw [List.take_length] at this
  exact this
def srtI (X : List Int) : List Int := X.mergeSort fun x y => decide (x ≤ y)
theorem compact_puts (X : List Int) : Lib.compact (srtI X) = puts [] X := by
  have hs : (srtI X).Pairwise (· ≤ ·) := by
    have := List.pairwise_mergeSort (le := fun x y : Int => decide (x ≤ y)) (fun a b c h1 h2 => by simp at *; omega) (fun a b => by simp; omega) X
    exact this.imp (fun h => by simpa using h)
  obtain ⟨h1, h2⟩ := compact_up _ hs
  refine up_eq h1 (puts_up X (by simp)) fun y => ?_
  rw [h2, mem_puts]
  unfold srtI
  rw [List.mem_mergeSort]
  simp
end Go.Proofs.Ytacncbkcnhlpcaa.B
