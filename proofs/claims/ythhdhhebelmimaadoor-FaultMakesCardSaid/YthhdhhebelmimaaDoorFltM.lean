/-
  What is proved: plain mathematics of lines and columns of a list of bytes.
-/
import Derived.Lib.Bytealg
import Derived.Lib.LastIndexByte
namespace Go.Proofs.YthhdhhebelmimaaDoor.Flt
set_option linter.unusedVariables false
set_option linter.unusedSimpArgs false

/-- how many bytes stand behind the last line end -/
def tl (l : List UInt8) : Nat := (l.reverse.takeWhile (· ≠ 10)).length
def ln (l : List UInt8) : Nat := l.count 10
theorem tl_nil : tl [] = 0 := rfl
theorem ln_nil : ln [] = 0 := rfl
theorem tl_snoc (l : List UInt8) (c : UInt8) : tl (l ++ [c]) = if c = 10 then 0 else tl l + 1 := by
  unfold tl
  rw [List.reverse_append]
  by_cases h : c = 10 <;> simp [h]
theorem ln_snoc (l : List UInt8) (c : UInt8) : ln (l ++ [c]) = if c = 10 then ln l + 1 else ln l := by
  unfold ln
  rw [List.count_append]
  by_cases h : c = 10 <;> simp [h]
theorem tl_le (l : List UInt8) : tl l ≤ l.length := by
  have := (List.takeWhile_prefix (l := l.reverse) (· ≠ 10)).length_le
  simpa [tl] using this
theorem ln_le (l : List UInt8) : ln l ≤ l.length := List.count_le_length
theorem snoc_ind {P : List UInt8 → Prop} (h0 : P []) (h1 : ∀ l c, P l → P (l ++ [c])) (l : List UInt8) : P l := by
  have : ∀ n (l : List UInt8), l.length = n → P l := by
    intro n
    induction n with
    | zero => intro l hl; rw [List.length_eq_zero_iff.1 hl]; exact h0
    | succ n ih =>
      intro l hl
      have hne : l ≠ [] := by intro e; rw [e] at hl; simp at hl
      rw [← List.dropLast_concat_getLast hne]
      exact h1 _ _ (ih _ (by simp [hl]))
  exact this _ l rfl
theorem tl_none (l : List UInt8) (h : ∀ c ∈ l, c ≠ 10) : tl l = l.length := by
  induction l using snoc_ind with
  | h0 => rfl
  | h1 l c ih => rw [tl_snoc, if_neg (h c (by simp)), ih (fun d hd => h d (by simp [hd]))]; simp
theorem tl_app (u v : List UInt8) (h : ∀ c ∈ v, c ≠ 10) : tl (u ++ 10 :: v) = v.length := by
  induction v using snoc_ind with
  | h0 => rw [tl_snoc]; rfl
  | h1 l c ih =>
    rw [show u ++ 10 :: (l ++ [c]) = (u ++ 10 :: l) ++ [c] by simp, tl_snoc, if_neg (h c (by simp)), ih (fun d hd => h d (by simp [hd]))]; simp
theorem drop_tl_ne (l : List UInt8) : ∀ c ∈ l.drop (l.length - tl l), c ≠ 10 := by
  induction l using snoc_ind with
  | h0 => simp
  | h1 l c ih =>
    intro d hd
    rw [tl_snoc] at hd
    by_cases h : c = 10
    · rw [if_pos h] at hd; simp at hd
    · rw [if_neg h] at hd
      have := tl_le l
      rw [List.length_append, List.length_singleton, show l.length + 1 - (tl l + 1) = l.length - tl l by omega, List.drop_append_of_le_length (by omega)] at hd
      rcases List.mem_append.1 hd with hd | hd
      · exact ih d hd
      · rw [List.mem_singleton.1 hd]; exact h

/-- the bytes of line L, counting from n -/
def lineB (L n : Nat) : List UInt8 → List UInt8
  | [] => []
  | c :: r => if c = 10 then lineB L (n + 1) r else if n = L then c :: lineB L n r else lineB L n r
theorem lineB_app (L n : Nat) (p q : List UInt8) : lineB L n (p ++ q) = lineB L n p ++ lineB L (n + ln p) q := by
  induction p generalizing n with
  | nil => simp [lineB, ln]
  | cons c r ih =>
    by_cases h : c = 10
    · subst h
      simp only [List.cons_append, lineB, if_true, ih]
      congr 2
      simp [ln]; omega
    · have e : ln (c :: r) = ln r := by simp [ln, h]
      by_cases h2 : n = L <;> simp [lineB, h, h2, ih, e]
theorem lineB_past (L n : Nat) (p : List UInt8) (h : L < n) : lineB L n p = [] := by
  induction p generalizing n with
  | nil => rfl
  | cons c r ih =>
    unfold lineB
    by_cases h1 : c = 10
    · rw [if_pos h1]; exact ih _ (by omega)
    · rw [if_neg h1, if_neg (by omega)]; exact ih _ h
theorem lineB_ahead (L n : Nat) (p : List UInt8) (h : n + ln p < L) : lineB L n p = [] := by
  induction p generalizing n with
  | nil => rfl
  | cons c r ih =>
    unfold lineB
    by_cases h1 : c = 10
    · subst h1; rw [if_pos rfl]; exact ih _ (by simp [ln] at h ⊢; omega)
    · rw [if_neg h1, if_neg (by have := Nat.zero_le (ln (c :: r)); omega)]; exact ih _ (by simp [ln, h1] at h ⊢; omega)
theorem lineB_own (n : Nat) (q : List UInt8) : lineB n n q = q.takeWhile (· ≠ 10) := by
  induction q with
  | nil => rfl
  | cons c r ih =>
    unfold lineB
    by_cases h1 : c = 10
    · rw [if_pos h1, lineB_past _ _ _ (by omega)]; simp [h1]
    · rw [if_neg h1, if_pos rfl, ih]; simp [h1]
theorem lineB_last (n : Nat) (p : List UInt8) : lineB (n + ln p) n p = p.drop (p.length - tl p) := by
  induction p using snoc_ind with
  | h0 => rfl
  | h1 l c ih =>
    rw [lineB_app, ln_snoc, tl_snoc]
    by_cases h : c = 10
    · simp only [if_pos h]
      rw [lineB_ahead _ _ _ (by omega)]
      simp [lineB, h]
    · simp only [if_neg h]
      have := tl_le l
      rw [ih, List.length_append, List.length_singleton, show l.length + 1 - (tl l + 1) = l.length - tl l by omega, List.drop_append_of_le_length (by omega)]
      simp [lineB, h]
theorem lineB_snoc (L n : Nat) (l : List UInt8) (c : UInt8) : lineB L n (l ++ [c]) = if c = 10 then lineB L n l else if n + ln l = L then lineB L n l ++ [c] else lineB L n l := by
  rw [lineB_app]
  by_cases h : c = 10
  · simp [h, lineB]
  · by_cases h2 : n + ln l = L <;> simp [h, h2, lineB]
/-- the line of the place k, read either way -/
theorem line_at (s : List UInt8) (k : Nat) (hk : k ≤ s.length) :
    lineB (ln (s.take k) + 1) 1 s = (s.drop (k - tl (s.take k))).takeWhile (· ≠ 10) := by
  obtain ⟨p, q, rfl, rfl⟩ : ∃ p q, s = p ++ q ∧ p.length = k := ⟨s.take k, s.drop k, (List.take_append_drop k s).symm, by simp [hk]⟩
  have e : (p ++ q).take p.length = p := by simp
  rw [e, Nat.add_comm (ln p) 1, lineB_app, lineB_own, lineB_last, List.drop_append_of_le_length (by omega), List.takeWhile_append_of_pos]
  intro c hc
  simpa using drop_tl_ne p c hc
def markL (s : List UInt8) (k : Nat) : List UInt8 := (s.drop (k - tl (s.take k))).takeWhile (· ≠ 10) ++ [10] ++ List.replicate (tl (s.take k)) 32 ++ [94]
theorem takeWhile_index (l : List UInt8) : (Lib.indexByte l 10 < 0 ∧ l.takeWhile (· ≠ 10) = l) ∨ (∃ i : Nat, Lib.indexByte l 10 = i ∧ i < l.length ∧ l.takeWhile (· ≠ 10) = l.take i) := by
  induction l with
  | nil => left; exact ⟨by decide, rfl⟩
  | cons c r ih =>
    unfold Lib.indexByte
    by_cases h : c = 10
    · right; exact ⟨0, by simp [h], by simp, by simp [h]⟩
    · rcases ih with ⟨h1, h2⟩ | ⟨i, h1, h2, h3⟩
      · left
        have hg := Lib.indexByte_ge r 10
        have he : Lib.indexByte r 10 = -1 := by omega
        simp [h, he]; simpa using h2
      · right; refine ⟨i + 1, ?_, by simp; omega, ?_⟩
        · simp [h, h1]
        · simp [h]; simpa using h3
theorem lastIdx_tl (s : ByteArray) (k : Nat) (hk : k ≤ s.size) : Lib.lastIdx s 10 k + 1 = (k : Int) - (tl (s.data.toList.take k) : Int) := by
  induction k with
  | zero => rfl
  | succ k ih =>
    have hlt : k < s.data.size := by have : s.size = s.data.size := rfl; omega
    have e : s.data.toList.take (k + 1) = s.data.toList.take k ++ [s.data[k]] := by
      rw [List.take_succ_eq_append_getElem (by rw [Array.length_toList]; exact hlt)]; rfl
    have g : s.data[k]! = s.data[k] := getElem!_pos s.data k hlt
    have h1 := ih (by omega)
    have h2 := tl_le (s.data.toList.take k)
    rw [e, tl_snoc]
    unfold Lib.lastIdx
    rw [g]
    by_cases h : s.data[k] = 10
    · rw [if_pos (by rw [h]; rfl), if_pos h]; simp
    · rw [if_neg (by intro e; exact h (UInt8.toNat_inj.1 (by have : (10 : UInt8).toNat = 10 := rfl; omega))), if_neg h]; omega
end Go.Proofs.YthhdhhebelmimaaDoor.Flt
