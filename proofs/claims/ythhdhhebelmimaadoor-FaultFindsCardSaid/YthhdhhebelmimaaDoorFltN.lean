/-
  What is proved: a fault behind a wrap and a part is found by errors.as; what faultIn and Find return of errors of this program.
-/
import Derived.Test.YthhdhhebelmimaaDoorFltL
namespace Go.Proofs.YthhdhhebelmimaaDoor.Flt
open Go.RowKit Go.Extern.Stop Go.Stop Go.Extern
set_option linter.unusedVariables false
set_option linter.unusedSimpArgs false

theorem as_RF (p : Option Addr) (b : Nat) (tgt : Value) (ab tb : Nat) (old : Value) (w : World) (hb : b < w.heap.size) (hc : w.cell? ⟨b, 1, none⟩ = some (.iface 22 (.pointer p)))
    (ha : w.cell? ⟨ab, 0, none⟩ = some (.pointer (some ⟨tb, 0, none⟩))) (hab : ab < w.heap.size) (ht : w.cell? ⟨tb, 0, none⟩ = some old) (htb : tb < w.heap.size) (hf : w.frozen? ⟨tb, 0, none⟩ = false) :
    Calls Tryd.prog 45 #[.iface 40 (.agg #[.iface 56 (.pointer (some ⟨b, 0, none⟩))]), tgt, valP ⟨ab, 0, none⟩, tyF] w fun e w' => e = .returned (.bool true) ∧ w'.cell? ⟨tb, 0, none⟩ = some (.pointer p) ∧ Below tb w w' := by
  have xTypeOf := @run_callFunc_extern Tryd.prog 20 _ ReflectliteType.typeOf Tryd.func20 (by kernel_rfl) (by kernel_rfl) (by kernel_rfl) (by kernel_rfl)
  have xValueOf := @run_callFunc_extern Tryd.prog 42 _ (fun args => ReflectliteValue.unpack (args.getD 0 (.tuple #[]))) Tryd.func42 (by kernel_rfl) (by kernel_rfl) (by kernel_rfl) (by kernel_rfl)
  have xAssignableTo := @run_callFunc_extern Tryd.prog 104 _ (ReflectliteType.relation "AssignableTo" ReflectliteType.assignableTo) Tryd.func104 (by kernel_rfl) (by kernel_rfl) (by kernel_rfl) (by kernel_rfl)
  have xVElem := @run_callFunc_extern Tryd.prog 58 _ (ReflectliteValue.method (ReflectliteValue.valueError "reflectlite.Value.Elem" 0) ReflectliteValue.elem) Tryd.func58 (by kernel_rfl) (by kernel_rfl) (by kernel_rfl) (by kernel_rfl)
  have xSet := @run_callFunc_extern Tryd.prog 59 _ ReflectliteValue.set Tryd.func59 (by kernel_rfl) (by kernel_rfl) (by kernel_rfl) (by kernel_rfl)
  have mAssignableTo' := mAssignableTo
  have typeOfR' := typeOfR
  have typeOfW' := typeOfW
  have typeOfF' := typeOfF
  have assR' := assR
  have assW' := assW
  have assF' := assF
  have noAsR' := noAsR
  have noAsW' := noAsW
  have unR' := unR
  have unW' := unW
  have mUnR' := mUnR
  have mUnW' := mUnW
  have valueOfF' := valueOfF
  have B1 : Below w.heap.size w (w.alloc (boxV ⟨ab, 0, none⟩)) := (Below.refl _ _).alloc (Nat.le_refl _) _
  have B2 := B1.alloc B1.size (.cells #[.iface 56 (.pointer (some ⟨b, 0, none⟩))] 40)
  have B3 := B2.alloc B2.size (.cells #[.pointer p] 22)
  have k1 := (B2.cell (p := ⟨b, 1, none⟩) hb).trans hc
  have ve := elemVP ⟨ab, 0, none⟩ ⟨tb, 0, none⟩ _ ((B2.cell (p := ⟨ab, 0, none⟩) hab).trans ha)
  have st := setF ⟨tb, 0, none⟩ ⟨w.heap.size + 1 + 1, 0, none⟩ p old _ (by rw [World.cell?_alloc_at _ _ _ _ (by simp)]; rfl) ((B3.cell (p := ⟨tb, 0, none⟩) htb).trans ht) ((B3.frozen (p := ⟨tb, 0, none⟩) htb).trans hf)
  have E3 := setCell_at (v := .pointer p) ((B3.cell (p := ⟨tb, 0, none⟩) htb).trans ht)
  have D3 := (B3.mono (B' := tb) (Nat.le_of_lt htb)).setCell (p := ⟨tb, 0, none⟩) (Nat.le_refl _) (.pointer p)
  clear ha hc ht hf
  go_enter Tryd.func45, Tryd.ntmps45
  go_wp2
  refine wp_loop_rounds 3 ?_
  rw [rounds_succ]
  go_wp2
  rw [rounds_succ]
  go_wp2
  rw [rounds_succ]
  go_wp2
  go_ret
  exact ⟨rfl, E3, D3⟩

theorem faultIn_idle (w : World) :
    CallsD Tryd.prog 30 #[] .returning w fun e u' w' => e = .returned (.tuple #[]) ∧ u' = .returning ∧ w' = w := by
  refine callsD_of_wpS Tryd.func30 rfl fun c₀ cs hu => ?_
  apply wpS_region
  simp [wpOpsS, go_sem, recoverD, hu, Tryd.ntmps30, Exit.thenS, bodyPostS, results, Tryd.results30]
  cases c₀
  simp_all

abbrev fW (w : World) : World := w.alloc (.cells #[.pointer none] 22)
/-- nothing is found -/
theorem faultIn_no (v : Value) (w : World)
    (hc : Calls Tryd.prog 31 #[v, .iface 79 (.pointer (some ⟨w.heap.size, 0, none⟩))] (fW w) fun e w' => e = .returned (.bool false) ∧ Below (fW w).heap.size (fW w) w') :
    Calls Tryd.prog 22 #[v] w fun e w' => e = .returned (.pointer none) ∧ Below w.heap.size w w' := by
  go_enter_defers Tryd.func22, Tryd.ntmps22
  go_wp2_with ((go_at_call 31; ((with_reducible refine hc.mono ?_); rintro e w1 ⟨rfl, hR⟩)))
  refine leaves_cons (f := 30) (args := #[]) (by simp) (by simp [go_sem]) ?_
  refine (faultIn_idle _).mono ?_
  rintro e u' w'' ⟨rfl, rfl, rfl⟩
  exact ⟨_, results_tmp rfl _ _ _, rfl, ((Below.refl _ _).alloc (Nat.le_refl _) _).trans (hR.mono (by simp))⟩
/-- the fault at p is found -/
theorem faultIn_yes (v : Value) (p : Option Addr) (w : World)
    (hc : Calls Tryd.prog 31 #[v, .iface 79 (.pointer (some ⟨w.heap.size, 0, none⟩))] (fW w) fun e w' => e = .returned (.bool true) ∧ w'.cell? ⟨w.heap.size, 0, none⟩ = some (.pointer p) ∧ Below w.heap.size (fW w) w') :
    Calls Tryd.prog 22 #[v] w fun e w' => e = .returned (.pointer p) ∧ Below w.heap.size w w' := by
  go_enter_defers Tryd.func22, Tryd.ntmps22
  go_wp2_with ((go_at_call 31; ((with_reducible refine hc.mono ?_); rintro e w1 ⟨rfl, hR1, hR⟩)))
  refine leaves_cons (f := 30) (args := #[]) (by simp) (by simp [go_sem]) ?_
  refine (faultIn_idle _).mono ?_
  rintro e u' w'' ⟨rfl, rfl, rfl⟩
  exact ⟨_, results_tmp rfl _ _ _, rfl, ((Below.refl _ _).alloc (Nat.le_refl _) _).trans hR⟩
/-- Find, where faultIn finds nothing, or nil -/
theorem find_no (v : Value) (w : World) (hc : Calls Tryd.prog 22 #[v] w fun e w' => e = .returned (.pointer none) ∧ Below w.heap.size w w') :
    Calls Tryd.prog 14 #[v] w fun e w' => e = .returned (.tuple #[.int .i64 0, .int .i64 0, .bool false]) ∧ Below w.heap.size w w' := by
  go_enter Tryd.func14, Tryd.ntmps14
  go_wp2_with ((go_at_call 22; ((with_reducible refine hc.mono ?_); rintro e w1 ⟨rfl, hR⟩)))
  go_ret3
  exact ⟨rfl, hR⟩
end Go.Proofs.YthhdhhebelmimaaDoor.Flt
