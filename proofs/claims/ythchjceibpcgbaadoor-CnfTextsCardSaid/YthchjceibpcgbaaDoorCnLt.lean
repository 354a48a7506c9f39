/-
  What is proved: the walk of CnfTexts: it returns true.
-/
import Derived.Test.YthchjceibpcgbaaDoorCpV
import Derived.Test.YthchjceibpcgbaaDoorCnE
namespace Go.Proofs.YthchjceibpcgbaaDoor.Cn
open Go.RowKit L Lt
set_option linter.unusedVariables false
set_option linter.unusedSimpArgs false

set_option maxRecDepth 100000 in
set_option maxHeartbeats 8000000 in
theorem cnfTexts (z : CfZ) (W : World) (h : z.ok W) (HT : Dig.Tab W) :
    Calls Tryd.prog 3 #[z.val] W fun e w' => e = .returned (.bool true) ∧ Below W.heap.size W w' := by
  obtain ⟨N, a, n, c, G⟩ := z
  show Calls Tryd.prog 3 #[.agg #[.int .i64 N, .slice a n c]] W _
  obtain ⟨W2, hW2, hB2, S2⟩ := boxC W N a n c
  have h2 := h.below hB2
  have HS := Lib.hid (show ∀ w', Below W2.heap.size W2 w' → (w'.cell? ⟨W.heap.size, 0, none⟩ = some (.int .i64 N) ∧ w'.cell? ⟨W.heap.size, 1, none⟩ = some (.slice a n c)) from fun w' hb => (S2.b hb).two)
  obtain ⟨s0, s1⟩ := S2.two
  have CA := Lib.hid (fun (w : World) (hb : Below W2.heap.size W2 w) => alive_any HT w (bel_trans hB2 hb))
  have CL := Lib.hid (fun (w : World) (hb : Below W2.heap.size W2 w) => RLong_any a n c G 60 w (h2.2.2.1.below hb) h2.2.1)
  have CR := Lib.hid (fun (w : World) (hb : Below W2.heap.size W2 w) => (show Calls Tryd.prog 8 #[.agg #[.int .i64 N, .slice a n c]] w (fun e w' => e = .returned (.tuple #[.int .i64 (rgC N G).1, .int .i64 (rgC N G).2]) ∧ Below w.heap.size w w') from CRight_any ⟨N, a, n, c, G⟩ w (h2.below hb)))
  have CQ := Lib.hid (fun (w : World) (hb : Below W2.heap.size W2 w) => (show Calls Tryd.prog 9 #[.agg #[.int .i64 N, .slice a n c]] w (fun e w' => e = .returned (.tuple #[.int .i64 (rgC N G).1, .int .i64 (rgC N G).2]) ∧ Below w.heap.size w w') from RRightC_any ⟨N, a, n, c, G⟩ w (h2.below hb)))
  have CT := Lib.hid (fun (w : World) (hb : Below W2.heap.size W2 w) => (show Calls Tryd.prog 10 #[.agg #[.int .i64 N, .slice a n c]] w (fun e w' => e = .returned (.tuple #[.string (Dig.BA (if (rgC N G).2 = 0 then txT N G else [])), .int .i64 (rgC N G).2]) ∧ Below w.heap.size w w') from Text_any HT ⟨N, a, n, c, G⟩ w (bel_trans hB2 hb) (h2.below hb)))
  have CU := Lib.hid (fun (w : World) (hb : Below W2.heap.size W2 w) => (show Calls Tryd.prog 11 #[.agg #[.int .i64 N, .slice a n c]] w (fun e w' => e = .returned (.tuple #[.string (Dig.BA (if (rgC N G).2 = 0 then txT N G else [])), .int .i64 (rgC N G).2]) ∧ Below w.heap.size w w') from RText_any ⟨N, a, n, c, G⟩ w (h2.below hb)))
  have HB2 := Lib.hid hB2
  have B0 : Below W2.heap.size W2 W2 := Below.refl _ _
  clear h h2 hB2 S2 HT
  generalize Dig.BA (if (rgC N G).2 = 0 then txT N G else []) = TX at *
  generalize (rgC N G).1 = R1 at *
  generalize (rgC N G).2 = R2 at *
  generalize lgG G 60 = lg at *
  cases lg
  · go_enter Tryd.func3, Tryd.ntmps3
    go_wp2_with (first
      | (go_at_call 6; ((with_reducible refine (CA.out _ (by assumption)).mono ?_); rintro e w1 ⟨rfl, b1⟩; have B1 := bel_trans (a := W2) (by assumption) b1; obtain ⟨u0, u1⟩ := HS.out _ B1; clear b1))
      | (go_at_call 7; ((with_reducible refine (CL.out _ (by assumption)).mono ?_); rintro e w2 ⟨rfl, rfl⟩))
      | (go_at_call 8; ((with_reducible refine (CR.out _ (by assumption)).mono ?_); rintro e w3 ⟨rfl, b3⟩; have B3 := bel_trans (a := W2) (by assumption) b3; obtain ⟨v0, v1⟩ := HS.out _ B3; clear b3))
      | (go_at_call 9; ((with_reducible refine (CQ.out _ (by assumption)).mono ?_); rintro e w4 ⟨rfl, b4⟩; have B4 := bel_trans (a := W2) (by assumption) b4; obtain ⟨x0, x1⟩ := HS.out _ B4; clear b4))
      | (go_at_call 10; ((with_reducible refine (CT.out _ (by assumption)).mono ?_); rintro e w5 ⟨rfl, b5⟩; have B5 := bel_trans (a := W2) (by assumption) b5; obtain ⟨y0, y1⟩ := HS.out _ B5; clear b5))
      | (go_at_call 11; ((with_reducible refine (CU.out _ (by assumption)).mono ?_); rintro e w6 ⟨rfl, b6⟩; have B6 := bel_trans (a := W2) (by assumption) b6; clear b6)))
    go_ret
    exact ⟨rfl, bel_trans HB2.out B6⟩
  · go_enter Tryd.func3, Tryd.ntmps3
    go_wp2_with (first
      | (go_at_call 6; ((with_reducible refine (CA.out _ (by assumption)).mono ?_); rintro e w1 ⟨rfl, b1⟩; have B1 := bel_trans (a := W2) (by assumption) b1; obtain ⟨u0, u1⟩ := HS.out _ B1; clear b1))
      | (go_at_call 7; ((with_reducible refine (CL.out _ (by assumption)).mono ?_); rintro e w2 ⟨rfl, rfl⟩)))
    go_ret
    exact ⟨rfl, bel_trans HB2.out B1⟩
end Go.Proofs.YthchjceibpcgbaaDoor.Cn
