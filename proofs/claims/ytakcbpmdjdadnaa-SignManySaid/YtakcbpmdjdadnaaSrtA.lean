/-
  What is proved: which texts may be a sort's name, by package sorts and by the document's answers.
-/
import Derived.Test.YtakcbpmdjdadnaaLibW
namespace Go.Proofs.Ytakcbpmdjdadnaa.Srt
open Go.RowKit L
set_option linter.unusedVariables false
set_option linter.unusedSimpArgs false

/-- may the text be the name of a sort of a list? -/
def validS (s : ByteArray) : Bool := nameB s.data.toList && (!wordB s.data.toList && (!(s.toList == [66, 111, 111, 108]) && !(s.toList == [73, 110, 116])))

theorem refWord_any (s : ByteArray) (w : World) :
    Calls Try.prog 39 #[.string s] w fun e w' => e = .returned (.bool (wordB s.data.toList)) ∧ Below w.heap.size w w' := by
  have ch := Has_words s w
  generalize wordB s.data.toList = R at *
  unfold WDc WD at ch
  simp only [List.map_cons, List.map_nil, BA] at ch
  go_enter Try.func39, Try.ntmps39
  go_wp2_with (go_at_call 27; ((with_reducible refine ch.mono ?_); rintro e w1 ⟨rfl, rfl⟩))
  go_ret
  exact ⟨rfl, bel_alloc (Below.refl _ _) _⟩

set_option maxHeartbeats 2000000 in
theorem valid_any (s : ByteArray) (w : World) (hs : s.size ≤ 9223372036854775000) :
    Calls Try.prog 51 #[.string s] w fun e w' => e = .returned (.bool (validS s)) ∧ Below w.heap.size w w' := by
  have c1 := fun (w : World) => Name_any s w (by omega)
  have c2 := fun (w : World) => Word_any s w hs
  unfold validS
  generalize nameB s.data.toList = N at *
  generalize wordB s.data.toList = B at *
  cases h1 : s.toList == [66, 111, 111, 108] <;> cases h2 : s.toList == [73, 110, 116] <;> cases N <;> cases B
  all_goals
    first | (have g1 : (s.toList = [66, 111, 111, 108]) = False := by simpa using h1) | (have g1 : (s.toList = [66, 111, 111, 108]) = True := by simpa using h1)
    first | (have g2 : (s.toList = [73, 110, 116]) = False := by simpa using h2) | (have g2 : (s.toList = [73, 110, 116]) = True := by simpa using h2)
    go_enter Try.func51, Try.ntmps51
    go_wp2_with (first
      | (go_at_call 35; ((with_reducible refine (c1 _).mono ?_); rintro e w' ⟨rfl, rfl⟩))
      | (go_at_call 36; ((with_reducible refine (c2 _).mono ?_); rintro e w1 ⟨rfl, hb1⟩)))
    go_ret
    first | exact ⟨rfl, hb1⟩ | exact ⟨rfl, Below.refl _ _⟩

set_option maxHeartbeats 2000000 in
theorem refName_any (s : ByteArray) (w : World) (hs : s.size ≤ 9223372036854775000) :
    Calls Try.prog 54 #[.string s] w fun e w' => e = .returned (.bool (validS s)) ∧ Below w.heap.size w w' := by
  have c1 := fun (w : World) => baseName_any s w (by omega)
  have c2 := fun (w : World) => refWord_any s w
  unfold validS
  generalize nameB s.data.toList = N at *
  generalize wordB s.data.toList = B at *
  cases h1 : s.toList == [66, 111, 111, 108] <;> cases h2 : s.toList == [73, 110, 116] <;> cases N <;> cases B
  all_goals
    first | (have g1 : (s.toList = [66, 111, 111, 108]) = False := by simpa using h1) | (have g1 : (s.toList = [66, 111, 111, 108]) = True := by simpa using h1)
    first | (have g2 : (s.toList = [73, 110, 116]) = False := by simpa using h2) | (have g2 : (s.toList = [73, 110, 116]) = True := by simpa using h2)
    go_enter Try.func54, Try.ntmps54
    go_wp2_with (first
      | (go_at_call 38; ((with_reducible refine (c1 _).mono ?_); rintro e w' ⟨rfl, rfl⟩))
      | (go_at_call 39; ((with_reducible refine (c2 _).mono ?_); rintro e w1 ⟨rfl, hb1⟩)))
    go_ret
    first | exact ⟨rfl, hb1⟩ | exact ⟨rfl, Below.refl _ _⟩
end Go.Proofs.Ytakcbpmdjdadnaa.Srt
