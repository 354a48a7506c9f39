/-
  What is proved: what errors.As finds, at a target of the type **fault.Fault, in errors of this program.
-/
import Derived.Test.YthhdhhebelmimaaDoorFltJ
namespace Go.Proofs.YthhdhhebelmimaaDoor.Flt
open Go.RowKit Go.Extern.Stop Go.Stop Go.Extern
set_option linter.unusedVariables false
set_option linter.unusedSimpArgs false

abbrev tyF : Value := .iface 70 (.agg #[.pointer (some ⟨5, 22, none⟩)])
abbrev valP (a : Addr) : Value := .agg #[.pointer (some ⟨5, 79, none⟩), .pointer (some a), .int .u64 150]

theorem as_E (v tgt : Value) (a : Addr) (w : World) :
    Calls Tryd.prog 45 #[.iface 26 v, tgt, valP a, tyF] w fun e w' => e = .returned (.bool false) ∧ Below w.heap.size w w' := by
  have xTypeOf := @run_callFunc_extern Tryd.prog 20 _ ReflectliteType.typeOf Tryd.func20 (by kernel_rfl) (by kernel_rfl) (by kernel_rfl) (by kernel_rfl)
  have xAssignableTo := @run_callFunc_extern Tryd.prog 104 _ (ReflectliteType.relation "AssignableTo" ReflectliteType.assignableTo) Tryd.func104 (by kernel_rfl) (by kernel_rfl) (by kernel_rfl) (by kernel_rfl)
  have typeOfE' := typeOfE
  have mAssignableTo' := mAssignableTo
  have assE' := assE
  have noAsE' := noAsE
  have unE' := unE
  have unsE' := unsE
  go_enter Tryd.func45, Tryd.ntmps45
  go_wp2
  refine wp_loop_rounds 1 ?_
  rw [rounds_succ]
  go_wp2
  go_ret
  exact ⟨rfl, (Below.refl _ _).alloc (Nat.le_refl _) _⟩
theorem as_L (v tgt : Value) (a : Addr) (w : World) :
    Calls Tryd.prog 45 #[.iface 48 v, tgt, valP a, tyF] w fun e w' => e = .returned (.bool false) ∧ Below w.heap.size w w' := by
  have xTypeOf := @run_callFunc_extern Tryd.prog 20 _ ReflectliteType.typeOf Tryd.func20 (by kernel_rfl) (by kernel_rfl) (by kernel_rfl) (by kernel_rfl)
  have xAssignableTo := @run_callFunc_extern Tryd.prog 104 _ (ReflectliteType.relation "AssignableTo" ReflectliteType.assignableTo) Tryd.func104 (by kernel_rfl) (by kernel_rfl) (by kernel_rfl) (by kernel_rfl)
  have typeOfL' := typeOfL
  have mAssignableTo' := mAssignableTo
  have assL' := assL
  have noAsL' := noAsL
  have unL' := unL
  have unsL' := unsL
  go_enter Tryd.func45, Tryd.ntmps45
  go_wp2
  refine wp_loop_rounds 1 ?_
  rw [rounds_succ]
  go_wp2
  go_ret
  exact ⟨rfl, (Below.refl _ _).alloc (Nat.le_refl _) _⟩
theorem setCell_at {w : World} {t : Addr} {old v : Value} (h : w.cell? t = some old) : (w.setCell t v).cell? t = some v := by
  exact World.cell?_setCell_same _ _ _ h
abbrev boxV (a : Addr) : Obj := .cells #[.pointer (some ⟨5, 79, none⟩), .pointer (some a), .int .u64 150] 96
theorem as_F (p : Option Addr) (tgt : Value) (ab tb : Nat) (old : Value) (w : World) (ha : w.cell? ⟨ab, 0, none⟩ = some (.pointer (some ⟨tb, 0, none⟩))) (hab : ab < w.heap.size) (ht : w.cell? ⟨tb, 0, none⟩ = some old) (htb : tb < w.heap.size) (hf : w.frozen? ⟨tb, 0, none⟩ = false) :
    Calls Tryd.prog 45 #[.iface 22 (.pointer p), tgt, valP ⟨ab, 0, none⟩, tyF] w fun e w' => e = .returned (.bool true) ∧ w'.cell? ⟨tb, 0, none⟩ = some (.pointer p) ∧ Below tb w w' := by
  have xTypeOf := @run_callFunc_extern Tryd.prog 20 _ ReflectliteType.typeOf Tryd.func20 (by kernel_rfl) (by kernel_rfl) (by kernel_rfl) (by kernel_rfl)
  have xValueOf := @run_callFunc_extern Tryd.prog 42 _ (fun args => ReflectliteValue.unpack (args.getD 0 (.tuple #[]))) Tryd.func42 (by kernel_rfl) (by kernel_rfl) (by kernel_rfl) (by kernel_rfl)
  have xAssignableTo := @run_callFunc_extern Tryd.prog 104 _ (ReflectliteType.relation "AssignableTo" ReflectliteType.assignableTo) Tryd.func104 (by kernel_rfl) (by kernel_rfl) (by kernel_rfl) (by kernel_rfl)
  have xVElem := @run_callFunc_extern Tryd.prog 58 _ (ReflectliteValue.method (ReflectliteValue.valueError "reflectlite.Value.Elem" 0) ReflectliteValue.elem) Tryd.func58 (by kernel_rfl) (by kernel_rfl) (by kernel_rfl) (by kernel_rfl)
  have xSet := @run_callFunc_extern Tryd.prog 59 _ ReflectliteValue.set Tryd.func59 (by kernel_rfl) (by kernel_rfl) (by kernel_rfl) (by kernel_rfl)
  have typeOfF' := typeOfF
  have mAssignableTo' := mAssignableTo
  have assF' := assF
  have valueOfF' := valueOfF
  have B1 : Below w.heap.size w (w.alloc (boxV ⟨ab, 0, none⟩)) := (Below.refl _ _).alloc (Nat.le_refl _) _
  have B2 := B1.alloc B1.size (.cells #[.pointer p] 22)
  have ve := elemVP ⟨ab, 0, none⟩ ⟨tb, 0, none⟩ _ ((B1.cell (p := ⟨ab, 0, none⟩) hab).trans ha)
  have st := setF ⟨tb, 0, none⟩ ⟨w.heap.size + 1, 0, none⟩ p old _ (by rw [World.cell?_alloc_at _ _ _ _ (by simp)]; rfl) ((B2.cell (p := ⟨tb, 0, none⟩) htb).trans ht) ((B2.frozen (p := ⟨tb, 0, none⟩) htb).trans hf)
  have B0 : Below tb w (w.setCell ⟨tb, 0, none⟩ (.pointer p)) := (Below.refl _ _).setCell (p := ⟨tb, 0, none⟩) (Nat.le_refl _) _
  have s0 : (w.setCell ⟨tb, 0, none⟩ (.pointer p)).heap.size = w.heap.size := by simp
  have B3 := (B0.alloc (by omega) (boxV ⟨ab, 0, none⟩)).alloc (by simp; omega) (.cells #[.pointer p] 22)
  have hend : (((w.setCell ⟨tb, 0, none⟩ (.pointer p)).alloc (boxV ⟨ab, 0, none⟩)).alloc (.cells #[.pointer p] 22)).cell? ⟨tb, 0, none⟩ = some (.pointer p) := by
    rw [World.cell?_alloc_lt _ _ ⟨tb, 0, none⟩ (by simp; omega), World.cell?_alloc_lt _ _ ⟨tb, 0, none⟩ (by rw [s0]; exact htb)]; exact setCell_at ht
  go_enter Tryd.func45, Tryd.ntmps45
  go_wp2
  refine wp_loop_rounds 1 ?_
  rw [rounds_succ]
  go_wp2
  go_ret
  exact ⟨rfl, hend, B3⟩
theorem as_RE (v : Value) (b : Nat) (tgt : Value) (a : Addr) (w : World) (hb : b < w.heap.size) (hc : w.cell? ⟨b, 1, none⟩ = some (.iface 26 v)) :
    Calls Tryd.prog 45 #[.iface 40 (.agg #[.iface 56 (.pointer (some ⟨b, 0, none⟩))]), tgt, valP a, tyF] w fun e w' => e = .returned (.bool false) ∧ Below w.heap.size w w' := by
  have xTypeOf := @run_callFunc_extern Tryd.prog 20 _ ReflectliteType.typeOf Tryd.func20 (by kernel_rfl) (by kernel_rfl) (by kernel_rfl) (by kernel_rfl)
  have xAssignableTo := @run_callFunc_extern Tryd.prog 104 _ (ReflectliteType.relation "AssignableTo" ReflectliteType.assignableTo) Tryd.func104 (by kernel_rfl) (by kernel_rfl) (by kernel_rfl) (by kernel_rfl)
  have mAssignableTo' := mAssignableTo
  have typeOfR' := typeOfR
  have typeOfW' := typeOfW
  have typeOfE' := typeOfE
  have assR' := assR
  have assW' := assW
  have assE' := assE
  have noAsR' := noAsR
  have noAsW' := noAsW
  have noAsE' := noAsE
  have unR' := unR
  have unW' := unW
  have unE' := unE
  have unsE' := unsE
  have mUnR' := mUnR
  have mUnW' := mUnW
  have B1 : Below w.heap.size w (w.alloc (boxV a)) := (Below.refl _ _).alloc (Nat.le_refl _) _
  have B2 := B1.alloc B1.size (.cells #[.iface 56 (.pointer (some ⟨b, 0, none⟩))] 40)
  have k1 := (B2.cell (p := ⟨b, 1, none⟩) hb).trans hc
  go_enter Tryd.func45, Tryd.ntmps45
  go_wp2
  refine wp_loop_rounds 3 ?_
  rw [rounds_succ]
  go_wp2
  rw [rounds_succ]
  go_wp2
  rw [rounds_succ]
  go_wp2
  go_ret
  exact ⟨rfl, B2⟩
theorem as_RL (v : Value) (b : Nat) (tgt : Value) (a : Addr) (w : World) (hb : b < w.heap.size) (hc : w.cell? ⟨b, 1, none⟩ = some (.iface 48 v)) :
    Calls Tryd.prog 45 #[.iface 40 (.agg #[.iface 56 (.pointer (some ⟨b, 0, none⟩))]), tgt, valP a, tyF] w fun e w' => e = .returned (.bool false) ∧ Below w.heap.size w w' := by
  have xTypeOf := @run_callFunc_extern Tryd.prog 20 _ ReflectliteType.typeOf Tryd.func20 (by kernel_rfl) (by kernel_rfl) (by kernel_rfl) (by kernel_rfl)
  have xAssignableTo := @run_callFunc_extern Tryd.prog 104 _ (ReflectliteType.relation "AssignableTo" ReflectliteType.assignableTo) Tryd.func104 (by kernel_rfl) (by kernel_rfl) (by kernel_rfl) (by kernel_rfl)
  have mAssignableTo' := mAssignableTo
  have typeOfR' := typeOfR
  have typeOfW' := typeOfW
  have typeOfL' := typeOfL
  have assR' := assR
  have assW' := assW
  have assL' := assL
  have noAsR' := noAsR
  have noAsW' := noAsW
  have noAsL' := noAsL
  have unR' := unR
  have unW' := unW
  have unL' := unL
  have unsL' := unsL
  have mUnR' := mUnR
  have mUnW' := mUnW
  have B1 : Below w.heap.size w (w.alloc (boxV a)) := (Below.refl _ _).alloc (Nat.le_refl _) _
  have B2 := B1.alloc B1.size (.cells #[.iface 56 (.pointer (some ⟨b, 0, none⟩))] 40)
  have k1 := (B2.cell (p := ⟨b, 1, none⟩) hb).trans hc
  go_enter Tryd.func45, Tryd.ntmps45
  go_wp2
  refine wp_loop_rounds 3 ?_
  rw [rounds_succ]
  go_wp2
  rw [rounds_succ]
  go_wp2
  rw [rounds_succ]
  go_wp2
  go_ret
  exact ⟨rfl, B2⟩
end Go.Proofs.YthhdhhebelmimaaDoor.Flt
