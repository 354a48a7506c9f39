/-
  What is proved: the text of any fault, where the library's table reads as it was laid.
-/
import Derived.Test.YthhdhhebelmimaaDoorFltT
namespace Go.Proofs.YthhdhhebelmimaaDoor.Flt
open Go.RowKit
set_option linter.unusedVariables false
set_option linter.unusedSimpArgs false

set_option maxRecDepth 100000 in
set_option maxHeartbeats 4000000 in
theorem error_any {W : World} (HT : Tab W) (b : Nat) (x y : Int) (x0 : -9223372036854775808 ≤ x) (x1 : x ≤ 9223372036854775807) (y0 : -9223372036854775808 ≤ y) (y1 : y ≤ 9223372036854775807) (w : World) (hw : Below W.heap.size W w)
    (hb : b < w.heap.size) (h0 : w.cell? ⟨b, 0, none⟩ = some (.int .i64 x)) (h1 : w.cell? ⟨b, 1, none⟩ = some (.int .i64 y)) :
    Calls Tryd.prog 7 #[.pointer (some ⟨b, 0, none⟩)] w fun e w' => e = .returned (.string (errT x y)) ∧ Below w.heap.size w w' := by
  have c1 := fun w => text_any HT x x0 x1 w
  have c2 := fun w => text_any HT y y0 y1 w
  have s1 : (BA (Lib.itoa x)).size ≤ 20 := by rw [BA_size]; exact itoa_len x0 x1
  have s2 : (BA (Lib.itoa y)).size ≤ 20 := by rw [BA_size]; exact itoa_len y0 y1
  have hr : Hid ((⟨#[101, 114, 114, 111, 114, 32]⟩ : ByteArray) ++ BA (Lib.itoa x) ++ ⟨#[32, 97, 116, 32]⟩ ++ BA (Lib.itoa y) = errT x y) := rfl
  generalize BA (Lib.itoa x) = X at *
  generalize BA (Lib.itoa y) = Y at *
  have q1 : ((⟨#[101, 114, 114, 111, 114, 32]⟩ : ByteArray) ++ X).size = 6 + X.size := by rw [ByteArray.size_append]; rfl
  have q2 : ((⟨#[101, 114, 114, 111, 114, 32]⟩ : ByteArray) ++ X ++ (⟨#[32, 97, 116, 32]⟩ : ByteArray)).size = 6 + X.size + 4 := by rw [ByteArray.size_append, q1]; rfl
  generalize errT x y = Z at *
  clear HT
  go_enter Tryd.func7, Tryd.ntmps7
  go_wp2
  go_region_with (first
    | (go_at_call 17; ((with_reducible refine (c1 _ ?_).mono ?_); exact hw.drew; rintro e w2 ⟨rfl, hb1⟩; have k1 := (hb1.cell (p := ⟨b, 1, none⟩) hb).trans h1; have hw2 : Below W.heap.size W w2 := hw.drew.trans (hb1.mono hw.size)))
    | (go_at_call 17; ((with_reducible refine (c2 _ ?_).mono ?_); (first | exact hw2 | exact hw2.drew | exact hw.drew); rintro e w3 ⟨rfl, hb2⟩)))
  all_goals clear c1 c2 k1 hw2 hw
  all_goals go_wp2
  all_goals go_simp
  all_goals go_ret
  all_goals
    refine ⟨retS hr.out, ?_⟩
    first
      | exact bel_trans (bel_trans (Below.refl _ _).drew hb1) hb2
      | exact bel_trans (bel_trans (Below.refl _ _).drew hb1) (bel_trans (Below.refl _ _).drew hb2)
      | exact (bel_trans (bel_trans (Below.refl _ _).drew hb1) hb2).drew
      | skip
end Go.Proofs.YthhdhhebelmimaaDoor.Flt
