/-
  What is proved: the law on what Make makes, walked, where the library's table reads as it was laid.
-/
import Derived.Test.YthhdhhebelmimaaDoorFltU
import Derived.Test.YthhdhhebelmimaaDoorFltJ
namespace Go.Proofs.YthhdhhebelmimaaDoor.Flt
open Go.RowKit Go.Extern.Stop Go.Stop Go.Extern
set_option linter.unusedVariables false
set_option linter.unusedSimpArgs false

theorem errComp : (Tryd.prog.info? 26).map (·.comparable) = some true := by kernel_rfl
theorem eqIn_E (d : Nat) (a : Int) (w : World) : (Op.equalIn (d + 2) 24 (.iface 26 (.int .i64 a)) (.iface 26 (.int .i64 a))).run Tryd.prog w = .ok true w := by
  obtain ⟨i, hi, hcmp⟩ := Option.map_eq_some_iff.1 errComp
  simp [Op.equalIn, run_underlying Tryd.underlying24, run_underlying Tryd.underlying26, typeInfo, hi, hcmp]
theorem eql_E (a : Int) (w : World) : (binOp .eql 24 (.iface 26 (.int .i64 a)) (.iface 26 (.int .i64 a))).run Tryd.prog w = .ok (.bool true) w := by
  simp only [binOp]
  simp [Op.equal, Op.maxDepth, eqIn_E 9998]
theorem neq_E (a : Int) (w : World) : (binOp .neq 24 (.iface 26 (.int .i64 a)) (.iface 26 (.int .i64 a))).run Tryd.prog w = .ok (.bool false) w := by
  simp only [binOp]
  simp [Op.equal, Op.maxDepth, eqIn_E 9998]
theorem eql_FE (u v : Value) (w : World) : (binOp .eql 24 (.iface 22 u) (.iface 26 v)).run Tryd.prog w = .ok (.bool false) w :=
  run_eql_iface_types (P := Tryd.prog) 22 26 u v Tryd.underlying24 (by decide) w

theorem make_any (x y : Int) (w : World) (hx : x ≠ 0) : Calls Tryd.prog 6 #[.int .i64 x, .int .i64 y] w fun e w' => e = .returned (.iface 22 (.pointer (some ⟨w.heap.size, 0, none⟩))) ∧ w' = w.alloc (.cells #[.int .i64 x, .int .i64 y] 32) := by
  have hx1 : (x == 0) = false := by simpa using hx
  go_enter Tryd.func6, Tryd.ntmps6
  go_wp2
  go_ret
  exact ⟨rfl, rfl⟩
theorem make_zero (y : Int) (w : World) : Calls Tryd.prog 6 #[.int .i64 0, .int .i64 y] w fun e w' => e = .returned .nilIface ∧ w' = w := by
  go_enter Tryd.func6, Tryd.ntmps6
  go_wp2
  go_ret
  exact ⟨rfl, rfl⟩
theorem err_nil (w : World) : Calls Tryd.prog 7 #[.pointer none] w fun e w' => e = .returned (.string ⟨#[]⟩) ∧ w' = w := by
  go_enter Tryd.func7, Tryd.ntmps7
  go_wp2
  go_ret
  exact ⟨rfl, rfl⟩
theorem unw_nil (w : World) : Calls Tryd.prog 8 #[.pointer none] w fun e w' => e = .returned .nilIface ∧ w' = w := by
  go_enter Tryd.func8, Tryd.ntmps8
  go_wp2
  go_ret
  exact ⟨rfl, rfl⟩
theorem unw_some (b : Nat) (x : Int) (w : World) (h0 : w.cell? ⟨b, 0, none⟩ = some (.int .i64 x)) : Calls Tryd.prog 8 #[.pointer (some ⟨b, 0, none⟩)] w fun e w' => e = .returned (.iface 26 (.int .i64 x)) ∧ w' = w := by
  go_enter Tryd.func8, Tryd.ntmps8
  go_wp2
  go_ret
  exact ⟨rfl, rfl⟩
theorem callComp (w : World) : (callFunc 105 #[.agg #[.pointer (some ⟨5, 26, none⟩)]]).run Tryd.prog w = .ok (.value (.bool true)) w := by
  have h := @run_callFunc_extern Tryd.prog 105 _ (ReflectliteType.method fun t => do Rtype.noPackHeld "Comparable" t; pure (.bool (← typeInfo t).comparable)) Tryd.func105 (by kernel_rfl) (by kernel_rfl) (by kernel_rfl) (by kernel_rfl)
  have h2 : ((ReflectliteType.method fun t => do Rtype.noPackHeld "Comparable" t; pure (.bool (← typeInfo t).comparable)) #[.agg #[.pointer (some ⟨5, 26, none⟩)]]).run Tryd.prog w = .ok (.bool true) w := by kernel_rfl
  rw [h, h2]; rfl
/-- errors.Is of a fault and its number -/
theorem is_fault (b : Nat) (x : Int) (w : World) (h0 : w.cell? ⟨b, 0, none⟩ = some (.int .i64 x)) :
    Calls Tryd.prog 11 #[.iface 22 (.pointer (some ⟨b, 0, none⟩)), .iface 26 (.int .i64 x)] w fun e w' => e = .returned (.bool true) ∧ w' = w := by
  have xTypeOf := @run_callFunc_extern Tryd.prog 20 _ ReflectliteType.typeOf Tryd.func20 (by kernel_rfl) (by kernel_rfl) (by kernel_rfl) (by kernel_rfl)
  have typeOfE' := typeOfE
  have callComp' := callComp
  have mComparable' := mComparable
  have eql_E' := eql_E
  have eql_FE' := eql_FE
  have noIsF' := noIsF
  have unF' := unF
  have mUnF' := mUnF
  go_enter Tryd.func11, Tryd.ntmps11
  go_wp2
  refine wp_loop_rounds 2 ?_
  rw [rounds_succ]
  go_wp2
  rw [rounds_succ]
  go_wp2
  go_ret
  exact ⟨rfl, rfl⟩

theorem makes_zero (y : Int) (w : World) : Calls Tryd.prog 3 #[.int .i64 0, .int .i64 y] w fun e w' => e = .returned (.bool true) ∧ Below w.heap.size w w' := by
  have c1 := make_zero
  have c2 := err_nil
  have c3 := unw_nil
  have cg := goes_any
  go_enter Tryd.func3, Tryd.ntmps3
  go_wp2_with (first
    | (go_at_call 6; ((with_reducible refine (c1 _ _).mono ?_); rintro e w1 ⟨rfl, rfl⟩))
    | (go_at_call 7; ((with_reducible refine (c2 _).mono ?_); rintro e w1 ⟨rfl, rfl⟩))
    | (go_at_call 8; ((with_reducible refine (c3 _).mono ?_); rintro e w1 ⟨rfl, rfl⟩))
    | (go_at_call 9; ((with_reducible refine (cg _).mono ?_); rintro e w6 ⟨rfl, b6⟩)))
  go_ret
  exact ⟨rfl, b6⟩
set_option maxRecDepth 100000 in
set_option maxHeartbeats 4000000 in
theorem makes_some (x y : Int) (w : World) (hx : x ≠ 0) (x0 : -9223372036854775808 ≤ x) (x1 : x ≤ 9223372036854775807) (y0 : -9223372036854775808 ≤ y) (y1 : y ≤ 9223372036854775807) (HT : Tab w) :
    Calls Tryd.prog 3 #[.int .i64 x, .int .i64 y] w fun e w' => e = .returned (.bool true) ∧ Below w.heap.size w w' := by
  have c2 := err_nil
  have c3 := unw_nil
  have cg := goes_any
  have cR := refText_any x y x0 x1 y0 y1
  obtain ⟨W1, hW1⟩ : ∃ W1, w.alloc (.cells #[.int .i64 x, .int .i64 y] 32) = W1 := ⟨_, rfl⟩
  have c1 := make_any x y w hx
  rw [hW1] at c1
  have B1 : Below w.heap.size w W1 := by rw [← hW1]; exact (Below.refl _ _).alloc (Nat.le_refl _) _
  have hsz : w.heap.size < W1.heap.size := by rw [← hW1]; simp
  have k0 : W1.cell? ⟨w.heap.size, 0, none⟩ = some (.int .i64 x) := by rw [← hW1, World.cell?_alloc_at _ _ _ _ (by simp)]; rfl
  have k1 : W1.cell? ⟨w.heap.size, 1, none⟩ = some (.int .i64 y) := by rw [← hW1, World.cell?_alloc_at _ _ _ _ (by simp)]; rfl
  have cU := unw_some w.heap.size x W1 k0
  have cE := error_any HT w.heap.size x y x0 x1 y0 y1 W1 B1 hsz k0 k1
  have cI : ∀ W, Below W1.heap.size W1 W → Calls Tryd.prog 11 #[.iface 22 (.pointer (some ⟨w.heap.size, 0, none⟩)), .iface 26 (.int .i64 x)] W fun e w' => e = .returned (.bool true) ∧ w' = W :=
    fun W h => is_fault w.heap.size x W ((h.cell (p := ⟨_, 0, none⟩) hsz).trans k0)
  have hx1 : (x == 0) = false := by simpa using hx
  have hbne : (x != x) = false := by simp
  have hbny : (y != y) = false := by simp
  have isFault' := isFault
  have neq_E' := neq_E
  have mErrF' := mErrF
  generalize errT x y = Z at *
  clear HT hW1 hx
  go_enter Tryd.func3, Tryd.ntmps3
  go_wp2_with (first
    | (go_at_call 6; ((with_reducible refine c1.mono ?_); rintro e w1 ⟨rfl, rfl⟩))
    | (go_at_call 7; ((with_reducible refine (c2 _).mono ?_); rintro e w1 ⟨rfl, rfl⟩))
    | (go_at_call 7; ((with_reducible refine cE.mono ?_); rintro e w3 ⟨rfl, b3⟩))
    | (go_at_call 8; ((with_reducible refine (c3 _).mono ?_); rintro e w1 ⟨rfl, rfl⟩))
    | (go_at_call 8; ((with_reducible refine cU.mono ?_); rintro e w1 ⟨rfl, rfl⟩))
    | (go_at_call 10; ((with_reducible refine (cR _).mono ?_); rintro e w4 ⟨rfl, b4⟩; replace b4 := bel_trans b3 b4; have cI4 := cI _ b4))
    | (go_at_call 11; ((with_reducible refine cI4.mono ?_); rintro e w5 ⟨rfl, rfl⟩))
    | (go_at_call 9; ((with_reducible refine (cg _).mono ?_); rintro e w6 ⟨rfl, b6⟩; replace b6 := bel_trans b4 b6)))
  go_ret
  exact ⟨rfl, B1.trans (b6.mono B1.size)⟩
theorem makes_walk (x y : Int) (w : World) (x0 : -9223372036854775808 ≤ x) (x1 : x ≤ 9223372036854775807) (y0 : -9223372036854775808 ≤ y) (y1 : y ≤ 9223372036854775807) (HT : Tab w) :
    Calls Tryd.prog 3 #[.int .i64 x, .int .i64 y] w fun e w' => e = .returned (.bool true) ∧ Below w.heap.size w w' := by
  by_cases hx : x = 0
  · subst hx; exact makes_zero y w
  · exact makes_some x y w hx x0 x1 y0 y1 HT
end Go.Proofs.YthhdhhebelmimaaDoor.Flt
