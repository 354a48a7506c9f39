/-
  What is proved: what the document's Clean returns.
-/
import Derived.Test.YthchjceibpcgbaaDoorLtG
namespace Go.Proofs.YthchjceibpcgbaaDoor.Lt
open Go.RowKit Go.Shelf Go.Maps Go.WideMaps L
set_option linter.unusedVariables false
set_option linter.unusedSimpArgs false

/-- where a literal is put in -/
def tw (x : Int) (O : List Int) : Nat := (O.takeWhile (fun y => ahd y x)).length
theorem tw_le (x : Int) (O : List Int) : tw x O ≤ O.length := (List.takeWhile_prefix _).length_le
theorem tw_lt {x y : Int} : ∀ {O : List Int} {j : Nat}, j < tw x O → O[j]? = some y → ahd y x = true
  | [], j, h, _ => by simp [tw] at h
  | z :: O, j, h, hy => by
    unfold tw at h
    rw [List.takeWhile_cons] at h
    cases hz : ahd z x
    · rw [hz] at h; simp at h
    · rw [hz] at h
      cases j with
      | zero => simp at hy; rw [← hy]; exact hz
      | succ j => exact tw_lt (O := O) (by unfold tw; simp at h; omega) (by simpa using hy)
theorem tw_at {x y : Int} : ∀ {O : List Int}, O[tw x O]? = some y → ahd y x = false
  | [], hy => by simp at hy
  | z :: O, hy => by
    unfold tw at hy
    rw [List.takeWhile_cons] at hy
    cases hz : ahd z x
    · rw [hz] at hy; simp at hy; rw [← hy]; exact hz
    · rw [hz] at hy
      exact tw_at (O := O) (by unfold tw; simpa using hy)
theorem ins_tw (x : Int) (O : List Int) : ins x O = O.take (tw x O) ++ [x] ++ O.drop (tw x O) := by
  unfold ins tw
  have h1 : O.takeWhile (fun y => ahd y x) = O.take (O.takeWhile (fun y => ahd y x)).length := (List.prefix_iff_eq_take.1 (List.takeWhile_prefix _))
  have h2 : O.takeWhile (fun y => ahd y x) ++ O.dropWhile (fun y => ahd y x) = O := List.takeWhile_append_dropWhile
  have h3 := congrArg (List.drop (O.takeWhile (fun y => ahd y x)).length) h2
  rw [List.drop_left] at h3
  rw [← h1, ← h3]; simp
theorem clF_take (X : List Int) (k : Nat) (x : Int) (hx : X[k]? = some x) : clF [] (X.take (k + 1)) = step (clF [] (X.take k)) x := by
  rw [List.take_add_one, hx]
  unfold clF
  rw [List.foldl_append]; rfl
theorem sub1 {w : World} {b o q c : Nat} {O : List Int} (h : SlI w (some ⟨b, o, none⟩) q c O) (P : Nat) (hP : P ≤ q) : SlI w (some ⟨b, o, none⟩) P c (O.take P) := by
  have h1 := h.1
  refine ⟨by rw [List.length_take]; omega, by have := h.2.1; omega, (fun e => by cases e), fun hp => ?_⟩
  obtain ⟨b', o', e, hb, hc⟩ := h.2.2.2 (by omega)
  injection e with e
  injection e with e1 e2
  subst e1 e2
  refine ⟨b, o, rfl, hb, fun i hi => ?_⟩
  rw [List.length_take] at hi
  rw [hc i (by omega), List.getElem_take]
theorem sub2 {w : World} {b o q c : Nat} {O : List Int} (h : SlI w (some ⟨b, o, none⟩) q c O) (P : Nat) (hP : P < q) : SlI w (some ⟨b, o + P, none⟩) (q - P) (c - P) (O.drop P) := by
  have h1 := h.1
  refine ⟨by rw [List.length_drop]; omega, by have := h.2.1; omega, (fun e => by cases e), fun hp => ?_⟩
  obtain ⟨b', o', e, hb, hc⟩ := h.2.2.2 (by omega)
  injection e with e
  injection e with e1 e2
  subst e1 e2
  refine ⟨b, o + P, rfl, hb, fun i hi => ?_⟩
  rw [List.length_drop] at hi
  rw [Nat.add_assoc, hc (P + i) (by omega), List.getElem_drop]
theorem empty_sl (w : World) (ad : Addr) (c : Nat) : SlI w (some ad) 0 c [] := ⟨rfl, Nat.zero_le _, (fun e => by cases e), fun h => absurd h (by omega)⟩
theorem one_sl {w : World} {x : Int} : SlI (w.alloc (.cells #[.int .i64 x] 3)) (some ⟨w.heap.size, 0, none⟩) 1 1 [x] :=
  ⟨rfl, Nat.le_refl _, (fun e => by cases e), fun _ => ⟨_, _, rfl, by simp, fun i hi => by
    obtain rfl : i = 0 := by simp at hi; omega
    rw [World.cell?_alloc_at _ _ _ _ rfl]; rfl⟩⟩
/-- where out stands behind k numbers -/
def OutW (w wr : World) (A : Option Addr) (q c : Nat) (O : List Int) : Prop := Below w.heap.size w wr ∧ SlI wr A q c O ∧ (q = 0 → A = none ∧ c = 0) ∧ ∀ ad, A = some ad → w.heap.size ≤ ad.block
theorem out_of {w w3 : World} {base : Nat} {v : Value} {O : List Int} (ho : OwnI w3 base v O) (hb : Below w.heap.size w w3) (h0 : 0 < O.length) (hbs : w.heap.size ≤ base) : ∃ A c, Value.slice A O.length c = v ∧ OutW w w3 A O.length c O := by
  obtain ⟨A, c, rfl, _⟩ := ho.slice
  exact ⟨A, c, rfl, hb, ho.sl.2.2, fun h => absurd h (by omega), fun ad h => Nat.le_trans hbs (ho.lt ad.block (by rw [h]; rfl)).1⟩
end Go.Proofs.YthchjceibpcgbaaDoor.Lt
