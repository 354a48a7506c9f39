/-
  What is proved: what package lit's Right, Has, Holds, Within and Same return.
-/
import Derived.Test.YthchjceibpcgbaaDoorLtE
import Derived.Maps.Own
import Derived.Maps.Views
namespace Go.Proofs.YthchjceibpcgbaaDoor.Lt
open Go.RowKit Go.Shelf Go.Maps Go.WideMaps L
set_option linter.unusedVariables false
set_option linter.unusedSimpArgs false
set_option maxRecDepth 100000

def rgL (X : List Int) (m : Int) : Int := if X.length > 64 then 2 else if X.any (fun x => !isL x || decide (m < vr x)) then 1 else 0
theorem wrong_any (m x : Int) (B : Nat) (W : World) (hc : W.cell? ⟨B, 0, none⟩ = some (.int .i64 m)) :
    FnGives Tryd.prog 26 #[.pointer (some ⟨B, 0, none⟩)] #[.int .i64 x] (.bool (!isL x || decide (m < vr x))) W := by
  show Calls Tryd.prog 26 #[.int .i64 x, .pointer (some ⟨B, 0, none⟩)] W _
  have c1 := fun W => (literal_any x W).mono fun e w' (h : _ ∧ W = w') => (show e = .returned (.bool (isL x)) ∧ w' = W from ⟨h.1, h.2.symm⟩)
  have c2 := fun W => (variable_any x W).mono fun e w' (h : _ ∧ W = w') => (show e = .returned (.int .i64 (vr x)) ∧ w' = W from ⟨h.1, h.2.symm⟩)
  generalize hi : isL x = i at *
  generalize hv : vr x = v at *
  generalize hd : decide (m < v) = d
  have hd' : decide (v > m) = d := hd
  clear hi hv
  cases i
  · go_enter Tryd.func26, Tryd.ntmps26
    go_wp2
    go_quiet (first
      | (go_at_call 27; exact Calls.quiet_of_same (c1 _))
      | (go_at_call 28; exact Calls.quiet_of_same (c2 _)))
    go_wp2
    go_ret
    exact ⟨rfl, _, rfl⟩
  · go_enter Tryd.func26, Tryd.ntmps26
    go_wp2
    go_quiet (first
      | (go_at_call 27; exact Calls.quiet_of_same (c1 _))
      | (go_at_call 28; exact Calls.quiet_of_same (c2 _)))
    go_wp2
    go_ret
    exact ⟨by simp, _, rfl⟩
theorem Right_any (A : Option Addr) (n c : Nat) (X : List Int) (m : Int) (w : World) (h : SlI w A n c X) (hr : R64s X) (hn : n ≤ 9223372036854775807) :
    Calls Tryd.prog 15 #[.slice A n c, .int .i64 m] w fun e w' => e = .returned (.int .i64 (rgL X m)) ∧ Below w.heap.size w w' := by
  obtain ⟨W, hW⟩ : ∃ W, w.alloc (.cells #[.int .i64 m] 3) = W := ⟨_, rfl⟩
  have hB : Below w.heap.size w W := by rw [← hW]; exact bel_alloc (Below.refl _ _) _
  have hs : w.heap.size < W.heap.size := by rw [← hW]; simp
  have hc : W.cell? ⟨w.heap.size, 0, none⟩ = some (.int .i64 m) := by rw [← hW, World.cell?_alloc_at _ _ _ _ rfl]; rfl
  have eg : ∀ args w, (callFunc 26 args).run Tryd.prog w = .ok (.enter 26 args) w := enters_of Tryd.func26 (by kernel_rfl) rfl
  have cF := containsF (fun x => !isL x || decide (m < vr x)) 26 #[.pointer (some ⟨w.heap.size, 0, none⟩)] eg A n c X W (h.below hB) hr hn
    (fun W' x hb _ => wrong_any m x w.heap.size W' ((hb.cell (p := ⟨w.heap.size, 0, none⟩) hs).trans hc))
  have hHr : Hid (rgL X m = if n > 64 then 2 else if X.any (fun x => !isL x || decide (m < vr x)) then 1 else 0) := by show _ = _; unfold rgL; rw [← h.1]
  generalize X.any (fun x => !isL x || decide (m < vr x)) = r at *
  generalize rgL X m = R at *
  clear h hr eg hc hs
  by_cases h1 : n > 64
  · have hR : Hid ((2 : Int) = R) := by show _ = _; rw [hHr.out, if_pos h1]
    have q1 : decide ((n : Int) > 64) = true := decide_eq_true (by omega)
    clear hHr
    go_enter Tryd.func15, Tryd.ntmps15
    go_wp2
    go_ret
    exact ⟨L.one hR.out, hB⟩
  · have q1 : decide ((n : Int) > 64) = false := decide_eq_false (by omega)
    cases r
    · have hR : Hid ((0 : Int) = R) := by show _ = _; rw [hHr.out, if_neg h1]; rfl
      clear hHr
      go_enter Tryd.func15, Tryd.ntmps15
      go_wp2_with (go_at_call 29; ((with_reducible refine cF.mono ?_); rintro e w1 ⟨rfl, hb1⟩))
      go_ret
      exact ⟨L.one hR.out, bel_trans hB hb1⟩
    · have hR : Hid ((1 : Int) = R) := by show _ = _; rw [hHr.out, if_neg h1]; rfl
      clear hHr
      go_enter Tryd.func15, Tryd.ntmps15
      go_wp2_with (go_at_call 29; ((with_reducible refine cF.mono ?_); rintro e w1 ⟨rfl, hb1⟩))
      go_ret
      exact ⟨L.one hR.out, bel_trans hB hb1⟩
/-- a map of the call's own that reads as a set of integers -/
def MapI (w : World) (g k : Nat) (S : Int → Bool) : Prop :=
  ∃ D : DataW Unit, w.ownsMap Tryd.prog 3 (plainElem Tryd.prog 4) g k D ∧ IsMap D ∧ ∀ x, D.atKey (.int .i64 x) (.lit (.bool false)) = .lit (.bool (S x))
theorem lawI : Keyed Tryd.prog 3 := int_keyed Tryd.underlying3
theorem zeroB (w : World) : (zeroValue 4).run Tryd.prog w = .ok (.bool false) w := by kernel_rfl
theorem plainB_inv {P : Program} {e : TypeId} (he : P.underlying e = some .bool) {v : Value} {z : DataW Unit × List MemPlace} (h : plainElem P e v = some z) : ∃ a, v = .bool a ∧ z = (.lit (.bool a), []) := by
  unfold plainElem at h
  rw [he] at h
  cases v <;> simp at h
  exact ⟨_, rfl, h.symm⟩
theorem wfI {x : Int} (h : R64 x) : (Lit.int .i64 x).wf = true := by
  unfold R64 at h
  simp [Lit.wf, IntKind.min, IntKind.max, IntKind.bits, IntKind.signed]
  omega
theorem MapI.made (w : World) : MapI (w.alloc (.map #[] 0)) w.heap.size 0 (fun _ => false) := ⟨.map [], World.ownsMap_made _ _ _ _, ⟨[], rfl⟩, fun x => rfl⟩
theorem MapI.lt {w : World} {g k : Nat} {S : Int → Bool} (h : MapI w g k S) : g < w.heap.size := by obtain ⟨D, ho, _⟩ := h; exact ho.lt
theorem MapI.b {w w' : World} {g k : Nat} {S : Int → Bool} (h : MapI w g k S) (hb : Below w.heap.size w w') : MapI w' g k S := by
  have hlt := h.lt
  obtain ⟨D, ⟨es, ck, h1, h2, h3, h4⟩, hD, hs⟩ := h
  exact ⟨D, ⟨es, ck, (hb.block g hlt).trans h1, h2, h3, h4⟩, hD, hs⟩
theorem MapI.congr {w : World} {g k : Nat} {S S' : Int → Bool} (h : MapI w g k S) (e : ∀ x, S x = S' x) : MapI w g k S' := by
  obtain ⟨D, h1, h2, h3⟩ := h
  exact ⟨D, h1, h2, fun x => by rw [h3, e]⟩
end Go.Proofs.YthchjceibpcgbaaDoor.Lt
