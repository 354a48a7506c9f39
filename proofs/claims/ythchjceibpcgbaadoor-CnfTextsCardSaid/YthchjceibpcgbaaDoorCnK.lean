/-
  What is proved: mathematics of the loop that reads a set of clauses line by line.
-/
import Derived.Test.YthchjceibpcgbaaDoorCnG
namespace Go.Proofs.YthchjceibpcgbaaDoor.Cn
open Go.RowKit L Lt
set_option linter.unusedVariables false
set_option linter.unusedSimpArgs false

theorem lns_line {u t : List UInt8} (h : ∀ c ∈ u, c ≠ 10) : lns (u ++ 10 :: t) = (u :: (lns t).1, (lns t).2) := by
  have e := spl_free h t
  have hne := spl_ne 10 t
  have h1 : (u :: spl 10 t).dropLast = u :: (spl 10 t).dropLast := by cases hs : spl 10 t with | nil => exact absurd hs hne | cons a b => rfl
  have h2 : ∀ hn, (u :: spl 10 t).getLast hn = (spl 10 t).getLast hne := fun hn => List.getLast_cons hne
  unfold lns
  refine Prod.ext ?_ ?_
  · show (spl 10 (u ++ 10 :: t)).dropLast = _
    rw [e]; exact h1
  · show (spl 10 (u ++ 10 :: t)).getLast _ = _
    simp only [e]; exact h2 _
theorem lns_end {u : List UInt8} (h : ∀ c ∈ u, c ≠ 10) : lns u = ([], u) := by
  have e := spl_one h
  unfold lns
  refine Prod.ext ?_ ?_
  · show (spl 10 u).dropLast = _
    rw [e]; rfl
  · show (spl 10 u).getLast _ = _
    simp only [e]; rfl
def st0 : St := ⟨false, 0, 0, []⟩
/-- where the loop stands -/
def RAt (l : List UInt8) (st : St) (line q k : Nat) : Prop :=
  (k ≤ l.length ∧ q ≤ k ∧ line ≤ k ∧ rdL st0 0 (lns l).1 = rdL st line (lns (l.drop q)).1 ∧ (lns l).2 = (lns (l.drop q)).2 ∧ ∀ c ∈ (l.drop q).take (k - q), c ≠ 10) ∧ Inv st ∧ (st.seen = false → st.L = [] ∧ st.n = 0)
theorem RAt.zero (l : List UInt8) : RAt l st0 0 0 0 :=
  ⟨⟨by omega, Nat.le_refl _, Nat.le_refl _, by rw [List.drop_zero], by rw [List.drop_zero], by simp⟩, ⟨⟨by decide, by decide⟩, ⟨by decide, by decide⟩, by decide, fun c hc => by cases hc⟩, fun _ => ⟨rfl, rfl⟩⟩
theorem stL_n {s s' : St} {t : List UInt8} (h0 : s.seen = false → s.L = [] ∧ s.n = 0) (h : stL s t = .ok s') : s'.seen = false → s'.L = [] ∧ s'.n = 0 := by
  unfold stL at h
  split at h
  · injection h with h; subst h; exact h0
  · split at h
    · next hs =>
      split at h
      · cases h
      · injection h with h; subst h; exact fun e => by cases e
    · next hs =>
      split at h
      · cases h
      · split at h
        · cases h
        · injection h with h; subst h; exact fun e => absurd e hs
theorem RAt.feed {s : ByteArray} {st st' : St} {line q k : Nat} (h : RAt s.data.toList st line q k) (hk : k < s.size) (hb : s[k] = 10) (hs : stL st (s.extract q k).data.toList = .ok st') : RAt s.data.toList st' (line + 1) (k + 1) (k + 1) := by
  have hlen := Dig.len_list s
  obtain ⟨⟨h1, h2, h3, h4, h5, h6⟩, h7, h8⟩ := h
  have ha : s.data.toList[k]? = some 10 := by rw [← hb, ← Dig.at_list s k hk]; exact List.getElem?_eq_getElem _
  rw [sub_list s q k (by omega)] at hs
  have e := drop_at h2 ha
  rw [e, lns_line h6] at h4 h5
  refine ⟨⟨by omega, Nat.le_refl _, by omega, ?_, h5, by simp⟩, (stL_r h7 (fun e => (h8 e).1) hs).1, stL_n h8 hs⟩
  rw [h4, rdL, hs]
theorem RAt.fail {s : ByteArray} {st : St} {line q k : Nat} {e : Int} (h : RAt s.data.toList st line q k) (hk : k < s.size) (hb : s[k] = 10) (hs : stL st (s.extract q k).data.toList = .error e) : rdC s.data.toList = ⟨0, [], line, e⟩ := by
  have hlen := Dig.len_list s
  obtain ⟨⟨h1, h2, h3, h4, h5, h6⟩, h7, h8⟩ := h
  have ha : s.data.toList[k]? = some 10 := by rw [← hb, ← Dig.at_list s k hk]; exact List.getElem?_eq_getElem _
  rw [sub_list s q k (by omega)] at hs
  have e := drop_at h2 ha
  rw [e, lns_line h6] at h4
  unfold rdC
  have h4' : rdL ⟨false, 0, 0, []⟩ 0 (lns s.data.toList).1 = _ := h4
  rw [h4', rdL, hs]
theorem RAt.more {s : ByteArray} {st : St} {line q k : Nat} (h : RAt s.data.toList st line q k) (hk : k < s.size) (hb : s[k] ≠ 10) : RAt s.data.toList st line q (k + 1) := by
  have hlen := Dig.len_list s
  obtain ⟨⟨h1, h2, h3, h4, h5, h6⟩, h7, h8⟩ := h
  have ha : s.data.toList[k]? = some s[k] := by rw [← Dig.at_list s k hk]; exact List.getElem?_eq_getElem _
  refine ⟨⟨by omega, by omega, by omega, h4, h5, fun c hc => ?_⟩, h7, h8⟩
  rw [take_more h2 ha] at hc
  rcases List.mem_append.1 hc with hc | hc
  · exact h6 c hc
  · obtain rfl : c = s[k] := by simpa using hc
    exact hb
theorem RAt.done {s : ByteArray} {st : St} {line q : Nat} (h : RAt s.data.toList st line q s.size) :
    rdC s.data.toList = if q < s.size then ⟨0, [], line, 7⟩ else if st.seen = false ∨ (st.L.length : Int) < st.many then ⟨0, [], line, 8⟩ else ⟨st.n, st.L, 0, 0⟩ := by
  have hlen := Dig.len_list s
  obtain ⟨⟨h1, h2, h3, h4, h5, h6⟩, h7, h8⟩ := h
  have e : (s.data.toList.drop q).take (s.size - q) = s.data.toList.drop q := List.take_of_length_le (by rw [List.length_drop]; omega)
  rw [e] at h6
  rw [lns_end h6] at h4 h5
  have h4' : rdL ⟨false, 0, 0, []⟩ 0 (lns s.data.toList).1 = .ok (st, line) := h4
  unfold rdC
  rw [h4']
  simp only
  rw [h5]
  have e2 : (s.data.toList.drop q ≠ []) ↔ q < s.size := by
    rw [ne_eq, List.drop_eq_nil_iff]; omega
  simp only [e2]
theorem RAt.le {s : ByteArray} {st : St} {line q k : Nat} (h : RAt s.data.toList st line q k) : q ≤ k ∧ line ≤ k ∧ k ≤ s.size := by
  have hlen := Dig.len_list s
  obtain ⟨⟨h1, h2, h3, _⟩, _⟩ := h
  exact ⟨h2, h3, by omega⟩
end Go.Proofs.YthchjceibpcgbaaDoor.Cn
