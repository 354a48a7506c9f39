/-
  What is proved: the library's Contains, ContainsFunc, Clone, DeleteFunc, Compact on rows of integers; what package lit's without returns.
-/
import Derived.Test.YthchjceibpcgbaaDoorLtD
import Derived.Test.YthchjceibpcgbaaDoorShelf
namespace Go.Proofs.YthchjceibpcgbaaDoor.Lt
open Go.RowKit Go.Shelf L
set_option linter.unusedVariables false
set_option linter.unusedSimpArgs false

theorem wrap_r (z : Int) : R64 (IntKind.i64.wrap z) := by
  unfold R64
  simp [IntKind.wrap, IntKind.bits, IntKind.signed]
  split <;> omega
def encW (x : Int) : Value := .int .i64 (IntKind.i64.wrap x)
theorem encW_r {x : Int} (h : R64 x) : encW x = .int .i64 x := by unfold encW; rw [wrap_id h]
theorem enters (g : Nat) (h : ∀ args w, (callFunc g args).run Tryd.prog w = .ok (.enter g args) w) : ∀ args w, (callFunc g args).run Tryd.prog w = .ok (.enter g args) w := h
theorem containsF (p : Int → Bool) (g : Nat) (lb : Array Value) (eg : ∀ args w, (callFunc g args).run Tryd.prog w = .ok (.enter g args) w) (A : Option Addr) (n c : Nat) (X : List Int) (w : World) (h : SlI w A n c X) (hr : R64s X) (hn : n ≤ 9223372036854775807)
    (hp : ∀ W x, Below w.heap.size w W → R64 x → FnGives Tryd.prog g lb #[.int .i64 x] (.bool (p x)) W) :
    Calls Tryd.prog 29 #[.slice A n c, .func (.func g) #[] lb] w fun e w' => e = .returned (.bool (X.any p)) ∧ Below w.heap.size w w' := by
  by_cases h0 : n = 0
  · subst h0
    have hX : X = [] := List.eq_nil_of_length_eq_zero h.1.symm
    subst hX
    exact (Tryd.slices_ContainsFunc_empty (α := Int) A c _ w).mono fun e w' ⟨he, hw⟩ => ⟨he, by rw [hw]; exact Below.refl _ _⟩
  · obtain ⟨b, o, rfl, hb, hc⟩ := h.2.2.2 (by omega)
    have hcon := Tryd.slices_ContainsFunc (α := Int) encW (fun x => p (IntKind.i64.wrap x)) g lb eg b o n c X w (fun W x hB => hp W _ hB (wrap_r x)) (Nat.le_of_eq h.1) hn
      (fun j hj => by rw [hc j hj, getElem!_pos X j hj, encW_r (hr _ (List.getElem_mem hj))])
    rw [h.1, List.take_length] at hcon
    rw [h.1]
    refine hcon.mono fun e w' ⟨he, q, hw⟩ => ⟨?_, by rw [hw]; exact below_drewN (Below.refl _ _) q⟩
    rw [he]
    congr 2
    rw [Bool.eq_iff_iff, List.any_eq_true, List.any_eq_true]
    constructor
    · rintro ⟨x, hx, hpx⟩; exact ⟨x, hx, by rwa [wrap_id (hr x hx)] at hpx⟩
    · rintro ⟨x, hx, hpx⟩; exact ⟨x, hx, by rwa [wrap_id (hr x hx)]⟩
/-- the worlds that keep what lies below a bound -/
def Kp (B : Nat) (w W : World) : Prop := ∀ k, k < B → W.heap[k]? = w.heap[k]?
theorem Kp.cell {B : Nat} {w W : World} (h : Kp B w W) {k o : Nat} (hk : k < B) : W.cell? ⟨k, o, none⟩ = w.cell? ⟨k, o, none⟩ := World.cell?_of_block (h k hk)
theorem kp_sort {B : Nat} {w : World} {g n : Nat} {os : Array Obj} (d : Array Int) (hb : B ≤ g) (hw : B ≤ w.heap.size) : Kp B w (sortWorld (Value.int .i64) w g 0 n d os) := fun k hk =>
  (grownBy_sortedI (w := w) (g := g) (n := n) (os := os) d).block k (by omega) (fun e => by injection e with e; omega)
theorem compact_le (X : List Int) : (Lib.compact X).length ≤ X.length := by
  unfold Lib.compact Lib.compactUpTo
  rw [List.length_map]
  have := List.length_filter_le (Lib.keeps X.toArray) (List.range X.length)
  rwa [List.length_range] at this
end Go.Proofs.YthchjceibpcgbaaDoor.Lt
