/-
  What is proved: the library's symMerge, any two rows side by side.
-/
import Derived.Test.YthchjceibpcgbaaGreatDoorFB
namespace Go.Proofs.YthchjceibpcgbaaGreatDoor.Fi
open Go.RowKit L Lt Cn
set_option linter.unusedVariables false
set_option linter.unusedSimpArgs false


/-- symMerge of two sorted rows side by side, of at most K places -/
def SymAt (g gc gl n N cap : Nat) (cf : Nat → Nat → Int) (w0 : World) (K : Nat) : Prop := ∀ (X A B Y : List Nat) (a m b : Nat) (w : World), A ≠ [] → B ≠ [] → A.length + B.length ≤ K → a = X.length → m = a + A.length → b = m + B.length → N = b + Y.length → Srt cf A → Srt cf B → (∀ x ∈ A, ∀ y ∈ B, x < y) → (∀ z ∈ A ++ B, z < n) → Below g w0 w → RowN w g (X ++ A ++ B ++ Y) →
  Calls Tryz.prog 109 #[.slice (some ⟨g, 0, none⟩) N cap, .int .i64 a, .int .i64 m, .int .i64 b, .func (.func 59) #[] #[.pointer (some ⟨gc, 0, none⟩), .pointer (some ⟨gl, 0, none⟩)]] w fun e w' => (∃ v, e = .returned v) ∧ (∃ M, RowN w' g (X ++ M ++ Y) ∧ M.Perm (A ++ B) ∧ Srt cf M) ∧ w.grownBy w' (some g)
def LoG (c : Nat → Nat → Int) (A B : List Nat) (a m b nn i : Nat) : Prop := i ≤ a ∨ b ≤ nn - i ∨ ∃ x y, A[i - 1 - a]? = some x ∧ B[nn - i - m]? = some y ∧ ¬ c y x < 0
def HiG (c : Nat → Nat → Int) (A B : List Nat) (a m nn j : Nat) : Prop := m ≤ j ∨ nn - j ≤ m ∨ ∃ x y, A[j - a]? = some x ∧ B[nn - 1 - j - m]? = some y ∧ c y x < 0

theorem sym_parts (g gc gl n : Nat) (w0 : World) (cf : Nat → Nat → Int) (h3 : Cmp3 cf) (K N cap : Nat) (hN2 : N ≤ 1000000) (IH : SymAt g gc gl n N cap cf w0 K) (X A B Y : List Nat) (a m b mid nn i e : Nat) (w : World)
    (hK : A.length + B.length ≤ K + 1) (hA : A ≠ []) (hB : B ≠ []) (ha : a = X.length) (hm : m = a + A.length) (hb : b = m + B.length) (hN : N = b + Y.length) (hsA : Srt cf A) (hsB : Srt cf B) (hx : ∀ x ∈ A, ∀ y ∈ B, x < y) (hlt : ∀ z ∈ A ++ B, z < n) (hbw : Below g w0 w) (hg : g < w.heap.size)
    (hmid : (a + b) / 2 = mid) (hnn : mid + m = nn) (hi1 : a ≤ i) (hi2 : i ≤ m) (hi3 : i ≤ mid) (hi4 : nn ≤ b + i) (he : nn - i = e) (hLo : LoG cf A B a m b nn i) (hHi : HiG cf A B a m nn i) :
    ∃ (S0 S1 S2 : World → Prop), (∀ W, S2 W → ∃ M, RowN W g (X ++ M ++ Y) ∧ M.Perm (A ++ B) ∧ Srt cf M) ∧
      (i < m → i < mid → ∀ W, w.grownBy W (some g) → RowN W g (X ++ A ++ B ++ Y) → Calls Tryz.prog 131 #[.slice (some ⟨g, 0, none⟩) N cap, .int .i64 i, .int .i64 m, .int .i64 e, .func (.func 59) #[] #[.pointer (some ⟨gc, 0, none⟩), .pointer (some ⟨gl, 0, none⟩)]] W fun e w' => (∃ v, e = .returned v) ∧ S0 w' ∧ w.grownBy w' (some g)) ∧
      (¬ (i < m ∧ i < mid) → ∀ W, RowN W g (X ++ A ++ B ++ Y) → S0 W) ∧
      (a < i → i < mid → ∀ W, w.grownBy W (some g) → S0 W → Calls Tryz.prog 109 #[.slice (some ⟨g, 0, none⟩) N cap, .int .i64 a, .int .i64 i, .int .i64 mid, .func (.func 59) #[] #[.pointer (some ⟨gc, 0, none⟩), .pointer (some ⟨gl, 0, none⟩)]] W fun e w' => (∃ v, e = .returned v) ∧ S1 w' ∧ w.grownBy w' (some g)) ∧
      (¬ (a < i ∧ i < mid) → ∀ W, S0 W → S1 W) ∧
      (mid < e → e < b → ∀ W, w.grownBy W (some g) → S1 W → Calls Tryz.prog 109 #[.slice (some ⟨g, 0, none⟩) N cap, .int .i64 mid, .int .i64 e, .int .i64 b, .func (.func 59) #[] #[.pointer (some ⟨gc, 0, none⟩), .pointer (some ⟨gl, 0, none⟩)]] W fun e w' => (∃ v, e = .returned v) ∧ S2 w' ∧ w.grownBy w' (some g)) ∧
      (¬ (mid < e ∧ e < b) → ∀ W, S1 W → S2 W) := by
  have lA : 0 < A.length := List.length_pos_iff.2 hA
  have lB : 0 < B.length := List.length_pos_iff.2 hB
  obtain ⟨sA, hsa⟩ : ∃ sA, i - a = sA := ⟨_, rfl⟩
  obtain ⟨eB, heb⟩ : ∃ eB, e - m = eB := ⟨_, rfl⟩
  have hB1 : ∀ W, w.grownBy W (some g) → Below g w0 W := fun W h => hbw.trans (gr_below h (Nat.le_of_lt hg) (Nat.le_refl _))
  have d1 := cut_lr (s := sA) (e := eB) h3 hsA hsB hx (by
    rcases hLo with h | h | ⟨x, y, e1, e2, e3⟩
    · exact .inl (by omega)
    · exact .inr (.inl (by omega))
    · exact .inr (.inr ⟨x, y, by rw [show sA - 1 = i - 1 - a by omega]; exact e1, by rw [show eB = nn - i - m by omega]; exact e2, e3⟩))
  have d2 := cut_rl (s := sA) (e := eB) h3 hsA hsB (by
    rcases hHi with h | h | ⟨x, y, e1, e2, e3⟩
    · exact .inl (by omega)
    · exact .inr (.inl (by omega))
    · exact .inr (.inr ⟨x, y, by rw [← hsa]; exact e1, by rw [show eB - 1 = nn - 1 - i - m by omega]; exact e2, e3⟩))
  have lt1 : (A.take sA).length = sA := by simp; omega
  have lt2 : (B.take eB).length = eB := by simp; omega
  have ld1 : (A.drop sA).length = m - i := by simp; omega
  have ld2 : (B.drop eB).length = b - e := by simp; omega
  have tA : A.take sA ++ A.drop sA = A := List.take_append_drop _ _
  have tB : B.take eB ++ B.drop eB = B := List.take_append_drop _ _
  have e1 : X ++ A ++ B ++ Y = X ++ A.take sA ++ A.drop sA ++ B.take eB ++ (B.drop eB ++ Y) := by
    rw [List.append_assoc X (A.take sA), tA, List.append_assoc (X ++ A) (B.take eB) (B.drop eB ++ Y), ← List.append_assoc (B.take eB) (B.drop eB) Y, tB, List.append_assoc (X ++ A) B Y]
  refine ⟨fun W => RowN W g (X ++ A.take sA ++ B.take eB ++ (A.drop sA ++ B.drop eB ++ Y)), fun W => ∃ M1, RowN W g (X ++ M1 ++ (A.drop sA ++ B.drop eB ++ Y)) ∧ M1.Perm (A.take sA ++ B.take eB) ∧ Srt cf M1, fun W => ∃ M, RowN W g (X ++ M ++ Y) ∧ M.Perm (A ++ B) ∧ Srt cf M, fun W h => h, ?_, ?_, ?_, ?_, ?_, ?_⟩
  · intro h1 h2 W hG hR
    have h := rotate_any g (X ++ A.take sA) (A.drop sA) (B.take eB) (B.drop eB ++ Y) N cap i m e (.func (.func 59) #[] #[.pointer (some ⟨gc, 0, none⟩), .pointer (some ⟨gl, 0, none⟩)]) (by intro h; rw [h] at ld1; simp at ld1; omega) (by intro h; rw [h] at lt2; simp at lt2; omega) (by simp; omega) (by simp; omega) (by rw [lt2]; omega) (by simp; omega) hN2 W (by
      rw [e1] at hR; exact hR)
    exact h.mono fun e w' ⟨h1, h2, h3⟩ => ⟨h1, by simpa using h2, hG.trans h3⟩
  · intro h W hR
    show RowN W g _
    by_cases h1 : i < m
    · have e0 : eB = 0 := by omega
      rw [e0, List.take_zero, List.drop_zero, List.append_nil, show X ++ A.take sA ++ (A.drop sA ++ B ++ Y) = X ++ (A.take sA ++ A.drop sA) ++ B ++ Y by simp only [List.append_assoc], tA]
      exact hR
    · have e0 : sA = A.length := by omega
      rw [e0, List.take_length, List.drop_length, List.nil_append, show X ++ A ++ B.take eB ++ (B.drop eB ++ Y) = X ++ A ++ (B.take eB ++ B.drop eB) ++ Y by simp only [List.append_assoc], tB]
      exact hR
  · intro h1 h2 W hG hS
    have h := IH X (A.take sA) (B.take eB) (A.drop sA ++ B.drop eB ++ Y) a i mid W (by intro h; rw [h] at lt1; simp at lt1; omega) (by intro h; rw [h] at lt2; simp at lt2; omega) (by rw [lt1, lt2]; omega) ha (by rw [lt1]; omega) (by rw [lt2]; omega) (by simp; omega) (srt_take hsA _) (srt_take hsB _) (fun x hx1 y hy1 => hx x (List.take_subset _ _ hx1) y (List.take_subset _ _ hy1)) (fun z hz => by
      rcases List.mem_append.1 hz with hz | hz
      · exact hlt z (List.mem_append_left _ (List.take_subset _ _ hz))
      · exact hlt z (List.mem_append_right _ (List.take_subset _ _ hz))) (hB1 W hG) hS
    exact h.mono fun e w' ⟨h1, h2, h3⟩ => ⟨h1, h2, hG.trans h3⟩
  · intro h W hS
    refine ⟨A.take sA ++ B.take eB, by have : RowN W g _ := hS; simpa using this, List.Perm.refl _, ?_⟩
    by_cases h1 : a < i
    · have e0 : eB = 0 := by omega
      subst e0
      simpa using srt_take hsA sA
    · have e0 : sA = 0 := by omega
      subst e0
      simpa using srt_take hsB eB
  · rintro h1 h2 W hG ⟨M1, hS, hp, hs⟩
    have l1 : M1.length = sA + eB := by have := hp.length_eq; rw [List.length_append, lt1, lt2] at this; exact this
    have h := IH (X ++ M1) (A.drop sA) (B.drop eB) Y mid e b W (by intro h; rw [h] at ld1; simp at ld1; omega) (by intro h; rw [h] at ld2; simp at ld2; omega) (by rw [ld1, ld2]; omega) (by simp; omega) (by rw [ld1]; omega) (by rw [ld2]; omega) (by omega) (srt_drop hsA _) (srt_drop hsB _) (fun x hx1 y hy1 => hx x (List.drop_subset _ _ hx1) y (List.drop_subset _ _ hy1)) (fun z hz => by
      rcases List.mem_append.1 hz with hz | hz
      · exact hlt z (List.mem_append_left _ (List.drop_subset _ _ hz))
      · exact hlt z (List.mem_append_right _ (List.drop_subset _ _ hz))) (hB1 W hG) (by simpa using hS)
    refine h.mono fun e w' ⟨h1, ⟨M2, h2, p2, s2⟩, h3⟩ => ⟨h1, ⟨M1 ++ M2, by simpa using h2, ?_⟩, hG.trans h3⟩
    have := merged hp p2 hs s2 hsA hsB d1 d2
    exact ⟨this.2, this.1⟩
  · rintro h W ⟨M1, hS, hp, hs⟩
    have hs2 : Srt cf (A.drop sA ++ B.drop eB) := by
      by_cases h1 : e < b
      · have e0 : sA = A.length := by omega
        rw [e0, List.drop_length]
        simpa using srt_drop hsB eB
      · have e0 : eB = B.length := by omega
        rw [e0, List.drop_length]
        simpa using srt_drop hsA sA
    refine ⟨M1 ++ (A.drop sA ++ B.drop eB), by simpa using hS, ?_⟩
    have := merged hp (List.Perm.refl _) hs hs2 hsA hsB d1 d2
    exact ⟨this.2, this.1⟩


end Go.Proofs.YthchjceibpcgbaaGreatDoor.Fi
