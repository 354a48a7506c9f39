/-
  What is proved: a clause's line, as the document reads it.
-/
import Derived.Test.YthchjceibpcgbaaGreatDoorZCnG
namespace Go.Proofs.YthchjceibpcgbaaGreatDoor.Cn
open Go.RowKit L Lt
set_option linter.unusedVariables false
set_option linter.unusedSimpArgs false

def erE {α : Type} : Except Int α → Int
  | .ok _ => 0
  | .error e => e
/-- what a clause's line returns: its error, and where there is none its numbers -/
def CP (t : List UInt8) (n : Int) (w : World) (e : Ending) (w' : World) : Prop :=
  ∃ A m c X, e = .returned (.tuple #[.slice A m c, .int .i64 (erE (clR' t n))]) ∧ SlI w' A m c X ∧ R64s X ∧ (∀ l, clR' t n = .ok l → X = l) ∧ (∀ ad, A = some ad → w.heap.size ≤ ad.block) ∧ Below w.heap.size w w'
theorem tupI {v : Value} {x y : Int} (h : x = y) : Ending.returned (.tuple #[v, .int .i64 x]) = .returned (.tuple #[v, .int .i64 y]) := by rw [h]
theorem CP.err {t : List UInt8} {n : Int} {w w' : World} {x : Int} (h : clR' t n = .error x) (hb : Below w.heap.size w w') : CP t n w (.returned (.tuple #[.slice none 0 0, .int .i64 x])) w' :=
  ⟨none, 0, 0, [], by rw [h]; rfl, SlI.nil _, (fun x hx => by cases hx), (fun l h2 => by rw [h] at h2; cases h2), (fun ad h => by cases h), hb⟩
theorem lsS_small {s : ByteArray} {D : List ByteArray} (h : lsS D = spl 32 s.data.toList) : True := trivial
theorem spl_small (b : UInt8) : ∀ (l : List UInt8), ∀ t ∈ spl b l, t.length ≤ l.length
  | [], t, h => by simp [spl] at h; simp [h]
  | c :: r, t, h => by
    have ih := spl_small b r
    rw [spl] at h
    split at h
    · rcases List.mem_cons.1 h with rfl | h
      · simp
      · have := ih t h; simp; omega
    · revert h
      cases hs : spl b r with
      | nil => intro h; simp at h; simp [h]
      | cons x xs =>
        intro h
        rcases List.mem_cons.1 h with rfl | h
        · have := ih x (by rw [hs]; simp); simp; omega
        · have := ih t (by rw [hs]; simp [h]); simp; omega
theorem words_small {s : ByteArray} {D : List ByteArray} (h : lsS D = spl 32 s.data.toList) (hs : s.size ≤ 100000) : ∀ d ∈ D, d.size ≤ 9223372036854775807 := fun d hd => by
  have h1 := spl_small 32 s.data.toList d.data.toList (by rw [← h]; exact List.mem_map.2 ⟨d, hd, rfl⟩)
  rw [Dig.len_list, Dig.len_list] at h1
  omega
theorem nums_ne {s : List UInt8} {l : List Int} (h : nums (spl 32 s) = some l) : l ≠ [] := by
  unfold nums at h
  split at h
  · injection h with h
    subst h
    intro e
    exact spl_ne 32 s (List.map_eq_nil_iff.1 e)
  · cases h
end Go.Proofs.YthchjceibpcgbaaGreatDoor.Cn
