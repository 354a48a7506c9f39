/-
  What is proved: errors.As, the fault within an error, and what Find returns, of errors of this program.
-/
import Derived.Test.YthhdhhebelmimaaDoorFltK
namespace Go.Proofs.YthhdhhebelmimaaDoor.Flt
open Go.RowKit Go.Extern.Stop Go.Stop Go.Extern
set_option linter.unusedVariables false
set_option linter.unusedSimpArgs false

/-- package errors' variable holds the type 'error' -/
def ETab (w : World) : Prop := w.cell? ⟨0, 0, none⟩ = some (.iface 70 (.agg #[.pointer (some ⟨5, 24, none⟩)]))
theorem ETab.lt {w : World} (h : ETab w) : 0 < w.heap.size := by
  rcases Nat.lt_or_ge 0 w.heap.size with h1 | h1
  · exact h1
  · simp [ETab, World.cell?, Array.getElem?_eq_none h1] at h
theorem ETab.below {w w' : World} (h : ETab w) (hB : Below w.heap.size w w') : ETab w' := (hB.cell (p := ⟨0, 0, none⟩) h.lt).trans h

abbrev asW (w : World) (tb : Nat) : World := (w.alloc (.cells #[.pointer (some ⟨tb, 0, none⟩)] 79)).alloc (boxV ⟨w.heap.size, 0, none⟩)
theorem as_nil (t : Value) (w : World) :
    Calls Tryd.prog 31 #[.nilIface, t] w fun e w' => e = .returned (.bool false) ∧ w' = w := by
  go_enter Tryd.func31, Tryd.ntmps31
  go_wp2
  go_ret
  exact ⟨rfl, rfl⟩
theorem as_top (T : TypeId) (v : Value) (tb : Nat) (r : Bool) (R : World → Prop) (w : World) (hg : ETab w)
    (hc : Calls Tryd.prog 45 #[.iface T v, .iface 79 (.pointer (some ⟨tb, 0, none⟩)), valP ⟨w.heap.size, 0, none⟩, tyF] (asW w tb) fun e w' => e = .returned (.bool r) ∧ R w') :
    Calls Tryd.prog 31 #[.iface T v, .iface 79 (.pointer (some ⟨tb, 0, none⟩))] w fun e w' => e = .returned (.bool r) ∧ R w' := by
  have xValueOf := @run_callFunc_extern Tryd.prog 42 _ (fun args => ReflectliteValue.unpack (args.getD 0 (.tuple #[]))) Tryd.func42 (by kernel_rfl) (by kernel_rfl) (by kernel_rfl) (by kernel_rfl)
  have xType := @run_callFunc_extern Tryd.prog 43 _ (ReflectliteValue.methodAny (ReflectliteValue.valueError "reflectlite.Value.Type" 0) (fun t _ _ _ => ReflectliteType.toType t)) Tryd.func43 (by kernel_rfl) (by kernel_rfl) (by kernel_rfl) (by kernel_rfl)
  have xIsNil := @run_callFunc_extern Tryd.prog 44 _ (ReflectliteValue.method (ReflectliteValue.valueError "reflectlite.Value.IsNil" 0) ReflectliteValue.isNil) Tryd.func44 (by kernel_rfl) (by kernel_rfl) (by kernel_rfl) (by kernel_rfl)
  have xKind := @run_callFunc_extern Tryd.prog 90 _ (ReflectliteType.abiMethod fun t => do pure (.int .u8 (← Rtype.kind t))) Tryd.func90 (by kernel_rfl) (by kernel_rfl) (by kernel_rfl) (by kernel_rfl)
  have xElem := @run_callFunc_extern Tryd.prog 106 _ (ReflectliteType.method ReflectliteType.elem) Tryd.func106 (by kernel_rfl) (by kernel_rfl) (by kernel_rfl) (by kernel_rfl)
  have xImplements := @run_callFunc_extern Tryd.prog 107 _ (ReflectliteType.relation "Implements" ReflectliteType.implements_) Tryd.func107 (by kernel_rfl) (by kernel_rfl) (by kernel_rfl) (by kernel_rfl)
  have valueOfP' := valueOfP
  have typeP' := typeP
  have mKind' := mKind
  have kindP' := kindP
  have mElem' := mElem
  have elemP' := elemP
  have kindF' := kindF
  have mImplements' := mImplements
  have implementsF' := implementsF
  have B1 : Below w.heap.size w (w.alloc (.cells #[.pointer (some ⟨tb, 0, none⟩)] 79)) := (Below.refl _ _).alloc (Nat.le_refl _) _
  have B2 := B1.alloc B1.size (boxV ⟨w.heap.size, 0, none⟩)
  have hg2 := (hg.below B2)
  unfold ETab at hg2
  have n8 := isNilP ⟨w.heap.size, 0, none⟩ ⟨tb, 0, none⟩ (asW w tb) (by rw [World.cell?_alloc_lt _ _ _ (by simp), World.cell?_alloc_at _ _ _ _ (by simp)]; rfl)
  go_enter Tryd.func31, Tryd.ntmps31
  go_wp2_with (first | (go_at_call 45; ((with_reducible refine hc.mono ?_); rintro e w1 ⟨rfl, hR⟩)) | go_in)
  go_ret
  exact ⟨rfl, hR⟩
end Go.Proofs.YthhdhhebelmimaaDoor.Flt
