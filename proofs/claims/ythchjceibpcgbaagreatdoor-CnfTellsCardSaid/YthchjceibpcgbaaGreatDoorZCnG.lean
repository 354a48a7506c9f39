/-
  What is proved: the words of a line at single blanks, as the document takes them apart.
-/
import Derived.Test.YthchjceibpcgbaaGreatDoorZCnF
namespace Go.Proofs.YthchjceibpcgbaaGreatDoor.Cn
open Go.RowKit L Lt
set_option linter.unusedVariables false
set_option linter.unusedSimpArgs false

theorem drop_at {l : List UInt8} {f k : Nat} {b : UInt8} (hf : f ≤ k) (h : l[k]? = some b) : l.drop f = (l.drop f).take (k - f) ++ b :: l.drop (k + 1) := by
  obtain ⟨hk, hb⟩ := List.getElem?_eq_some_iff.1 h
  have h1 : l.drop k = b :: l.drop (k + 1) := by rw [← hb]; exact (List.drop_eq_getElem_cons hk)
  have h2 : (l.drop f).drop (k - f) = l.drop k := by rw [List.drop_drop]; congr 1; omega
  rw [← h1, ← h2, List.take_append_drop]
theorem take_more {l : List UInt8} {f k : Nat} {b : UInt8} (hf : f ≤ k) (h : l[k]? = some b) : (l.drop f).take (k + 1 - f) = (l.drop f).take (k - f) ++ [b] := by
  rw [show k + 1 - f = k - f + 1 by omega, List.take_add_one, List.getElem?_drop, show f + (k - f) = k by omega, h]; rfl
theorem sub_list (s : ByteArray) (f k : Nat) (hk : k ≤ s.size) : (s.extract f k).data.toList = (s.data.toList.drop f).take (k - f) := by
  simp [ByteArray.data_extract, Array.toList_extract]
/-- where the loop stands: the words D are done, the next begins at f, no blank has been met since -/
def WAt (l : List UInt8) (D : List ByteArray) (f k : Nat) : Prop :=
  (k ≤ l.length ∧ f ≤ k ∧ D.length ≤ k ∧ spl 32 l = lsS D ++ spl 32 (l.drop f) ∧ ∀ c ∈ (l.drop f).take (k - f), c ≠ 32) ∨ (k = l.length + 1 ∧ f ≤ k ∧ D.length ≤ k ∧ spl 32 l = lsS D)
theorem WAt.blank {s : ByteArray} {D : List ByteArray} {f k : Nat} (h : WAt s.data.toList D f k) (hk : k < s.size) (hb : s[k] = 32) : WAt s.data.toList (D ++ [s.extract f k]) (k + 1) (k + 1) := by
  have hlen := Dig.len_list s
  rcases h with ⟨h1, h2, h3, h4, h5⟩ | ⟨h1, _⟩
  · have ha : s.data.toList[k]? = some 32 := by rw [← hb, ← Dig.at_list s k hk]; exact List.getElem?_eq_getElem _
    refine Or.inl ⟨by omega, Nat.le_refl _, by simp; omega, ?_, by simp⟩
    rw [h4, drop_at h2 ha, spl_free h5]
    simp [lsS, sub_list s f k (by omega)]
  · omega
theorem WAt.more {s : ByteArray} {D : List ByteArray} {f k : Nat} (h : WAt s.data.toList D f k) (hk : k < s.size) (hb : s[k] ≠ 32) : WAt s.data.toList D f (k + 1) := by
  have hlen := Dig.len_list s
  rcases h with ⟨h1, h2, h3, h4, h5⟩ | ⟨h1, _⟩
  · have ha : s.data.toList[k]? = some s[k] := by rw [← Dig.at_list s k hk]; exact List.getElem?_eq_getElem _
    refine Or.inl ⟨by omega, by omega, by omega, h4, fun c hc => ?_⟩
    rw [take_more h2 ha] at hc
    rcases List.mem_append.1 hc with hc | hc
    · exact h5 c hc
    · obtain rfl : c = s[k] := by simpa using hc
      exact hb
  · omega
theorem WAt.last {s : ByteArray} {D : List ByteArray} {f : Nat} (h : WAt s.data.toList D f s.size) : WAt s.data.toList (D ++ [s.extract f s.size]) (s.size + 1) (s.size + 1) := by
  have hlen := Dig.len_list s
  rcases h with ⟨h1, h2, h3, h4, h5⟩ | ⟨h1, _⟩
  · refine Or.inr ⟨by omega, Nat.le_refl _, by simp; omega, ?_⟩
    have e : (s.data.toList.drop f).take (s.size - f) = s.data.toList.drop f := List.take_of_length_le (by rw [List.length_drop]; omega)
    rw [e] at h5
    rw [h4, spl_one h5]
    simp only [lsS, List.map_append, List.map_cons, List.map_nil]
    rw [sub_list s f s.size (Nat.le_refl _), e]
  · omega
theorem WAt.le {s : ByteArray} {D : List ByteArray} {f k : Nat} (h : WAt s.data.toList D f k) : f ≤ k ∧ D.length ≤ k ∧ k ≤ s.size + 1 := by
  have hlen := Dig.len_list s
  rcases h with ⟨h1, h2, h3, _⟩ | ⟨h1, h2, h3, _⟩
  · exact ⟨h2, h3, by omega⟩
  · exact ⟨h2, h3, by omega⟩

end Go.Proofs.YthchjceibpcgbaaGreatDoor.Cn
