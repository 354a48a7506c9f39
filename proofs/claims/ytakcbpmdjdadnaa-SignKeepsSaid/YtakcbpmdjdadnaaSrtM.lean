/-
  What is proved: mathematics of lists of sorts: the same over lists of bytes, which can be computed; what follows for a list into which a sort is put.
-/
import Derived.Test.YtakcbpmdjdadnaaSrtD
namespace Go.Proofs.Ytakcbpmdjdadnaa.Srt
open Go.RowKit L
set_option linter.unusedVariables false
set_option linter.unusedSimpArgs false

/-! the same over lists of bytes, which can be computed -/
def validL (l : List UInt8) : Bool := nameB l && (!wordB l && (!(l == [66, 111, 111, 108]) && !(l == [73, 110, 116])))
def rgtL : List (List UInt8) → List (List UInt8) → Int
  | _, [] => 0
  | P, x :: l => if validL x = false then 10 else if P.any (fun y => y == x) = true then 4 else rgtL (P ++ [x]) l
theorem valid_L (s : ByteArray) : validS s = validL s.data.toList := by unfold validS validL; rw [ByteArray.toList_eq]
theorem has_L (X : List ByteArray) (s : ByteArray) : hasS X s = (X.map (·.data.toList)).any (fun y => y == s.data.toList) := by
  unfold hasS; rw [List.any_map]
  congr 1
  funext x
  simp only [ByteArray.toList_eq, Function.comp]
theorem rgt_L : ∀ (X P : List ByteArray), rgt P X = rgtL (P.map (·.data.toList)) (X.map (·.data.toList))
  | [], P => rfl
  | x :: X, P => by
    rw [rgt, List.map_cons, rgtL, rgt_L X (P ++ [x]), valid_L, has_L, List.map_append]; rfl

theorem ex1 : putE [BA [65]] (BA [116, 114, 117, 101]) = 10 := by unfold putE; rw [valid_L]; decide +kernel
theorem ex2 : rightV [BA [65], BA [66], BA [65]] = 4 := by unfold rightV; rw [rgt_L]; decide +kernel
theorem ex3 : placeI [BA [65], BA [66]] (BA [65]) = 2 := by
  refine place_first (k := 0) rfl ?_ rfl
  rw [valid_L]; decide +kernel
theorem okZ_A (X : List ByteArray) (h : ∀ x ∈ X, x.size ≤ 1) : okZ X := fun x hx => by have := h x hx; omega

theorem rgt_snoc (s : ByteArray) : ∀ (X P : List ByteArray), rgt P X = 0 → rgt P (X ++ [s]) = if validS s = false then 10 else if hasS (P ++ X) s = true then 4 else 0
  | [], P, _ => by rw [List.nil_append, rgt, List.append_nil]; rfl
  | x :: X, P, h => by
    rw [rgt] at h
    rw [List.cons_append, rgt]
    split at h
    · omega
    · split at h
      · omega
      · rw [if_neg (by assumption), if_neg (by assumption), rgt_snoc s X (P ++ [x]) h, List.append_assoc]; rfl
theorem right_ok {X : List ByteArray} (h : rightV X = 0) : X.length ≤ 64 ∧ rgt [] X = 0 := by
  unfold rightV at h
  split at h
  · omega
  · exact ⟨by omega, h⟩
theorem put_ok' {X : List ByteArray} {s : ByteArray} (h : putE X s = 0) : validS s = true ∧ hasS X s = false ∧ X.length < 64 := by
  unfold putE at h
  split at h
  · omega
  · split at h
    · omega
    · split at h
      · omega
      · exact ⟨by simpa using (by assumption : ¬ validS s = false), by simpa using (by assumption : ¬ hasS X s = true), by omega⟩
theorem right_put {X : List ByteArray} {s : ByteArray} (h : rightV X = 0) (hp : putE X s = 0) : rightV (X ++ [s]) = 0 := by
  obtain ⟨h1, h2⟩ := right_ok h
  obtain ⟨p1, p2, p3⟩ := put_ok' hp
  unfold rightV
  rw [if_neg (by simp; omega), rgt_snoc s X [] h2, if_neg (by simp [p1]), if_neg (by simp [p2])]
theorem place_put {X : List ByteArray} {s : ByteArray} (hp : putE X s = 0) : placeI (X ++ [s]) s = 2 + (X.length : Int) := by
  obtain ⟨p1, p2, p3⟩ := put_ok' hp
  refine place_first (k := X.length) (by simp) p1 ?_
  rw [List.take_left]; exact p2
end Go.Proofs.Ytakcbpmdjdadnaa.Srt
