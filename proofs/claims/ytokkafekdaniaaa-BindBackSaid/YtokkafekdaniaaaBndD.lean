/-
  What is proved: what package bind's function literals do to one part: those of LiftClaim and of Close.
-/
import Derived.Test.YtokkafekdaniaaaBndC
namespace Go.Proofs.Ytokkafekdaniaaa.B
open Go.RowKit L T C
set_option linter.unusedVariables false
set_option linter.unusedSimpArgs false

theorem row_nu {w : World} {g : Nat} {hs : List Hd} (hr : Row w g hs) (k : Nat) (x : Int) (h : Hd) (hk : hs[k]? = some h) : Row (w.setCell ⟨g, k * 4 + 2, none⟩ (.int .i64 x)) g (hs.set k (nuw h x)) := by
  obtain ⟨hk, rfl⟩ := List.getElem?_eq_some_iff.1 hk
  obtain ⟨cur, hg, hl, ht⟩ := hr
  refine ⟨cur.setIfInBounds (k * 4 + 2) (.int .i64 x), heap_setCell_same _ _ _ _ _ _ hg, by simp; omega, flat_ext (by simp; omega) fun i hi j hj => ?_⟩
  rw [List.length_set] at hi
  rw [Array.getElem?_toList, Array.getElem?_setIfInBounds]
  by_cases e : k * 4 + 2 = i * 4 + j
  · obtain rfl : i = k := by omega
    obtain rfl : j = 2 := by omega
    rw [if_pos e, if_pos (by omega)]
    simp [nuw, Hd.cells]
  · rw [if_neg e, ← Array.getElem?_toList, ← List.getElem?_take_of_lt (show i * 4 + j < hs.length * 4 by omega), ht, flat_get hs i j hi hj]
    by_cases e2 : i = k
    · subst e2
      have hc : j = 0 ∨ j = 1 ∨ j = 3 := by omega
      rcases hc with rfl | rfl | rfl <;> simp [nuw, Hd.cells]
    · rw [List.getElem_set_ne (fun x => e2 x.symm)]
theorem set_same {hs : List Hd} {i : Nat} {h : Hd} (hk : hs[i]? = some h) : hs.set i (nuw h h.nu) = hs := by
  obtain ⟨hk, rfl⟩ := List.getElem?_eq_some_iff.1 hk
  have : nuw hs[i] hs[i].nu = hs[i] := rfl
  rw [this, List.set_getElem_self]
def isLs (o k z : Int) : Bool := decide (o = 2 ∧ k ≤ z)
def lsV (o k z : Int) : Int := if o = 2 ∧ k ≤ z then wrap64 (z - k) else 0
set_option maxHeartbeats 1000000 in
theorem loose_any (o : Int) (s : ByteArray) (z : Int) (a : Option Addr) (n c : Nat) (k : Int) (w : World) :
    Calls Try.prog 109 #[.agg #[.int .i64 o, .string s, .int .i64 z, .slice a n c], .int .i64 k] w fun e w' => e = .returned (.tuple #[.int .i64 (lsV o k z), .bool (isLs o k z)]) ∧ Below w.heap.size w w' := by
  obtain ⟨W1, hW1, hB1, hs1, S1⟩ := box1 w o s z a n c
  obtain ⟨s0, s1, s2, s3⟩ := S1.four
  clear S1 hs1
  by_cases h : o = 2 ∧ k ≤ z
  · have e1 : lsV o k z = wrap64 (z - k) := by unfold lsV; rw [if_pos h]
    have e2 : isLs o k z = true := by unfold isLs; simp [h]
    rw [e1, e2]
    obtain ⟨rfl, hkz⟩ := h
    have q1 : ¬ z < k := by omega
    clear e1 e2
    go_enter Try.func109, Try.ntmps109
    go_wp2
    go_ret2
    exact ⟨rfl, hB1⟩
  · have e1 : lsV o k z = 0 := by unfold lsV; rw [if_neg h]
    have e2 : isLs o k z = false := by unfold isLs; simp [h]
    rw [e1, e2]
    clear e1 e2
    by_cases ho : o = 2
    · subst ho
      have q1 : z < k := by omega
      clear h
      go_enter Try.func109, Try.ntmps109
      go_wp2
      go_ret2
      exact ⟨rfl, hB1⟩
    · have q1 : (o == 2) = false := by simp [ho]
      have q2 : (o != 2) = true := by simp [ho]
      clear h ho
      go_enter Try.func109, Try.ntmps109
      go_wp2
      go_ret2
      exact ⟨rfl, hB1⟩
end Go.Proofs.Ytokkafekdaniaaa.B
