/-
  What is proved: the chapter's example.
-/
import Derived.Test.YtelepojpnkoelaaZTrmR
import Derived.Test.YtelepojpnkoelaaZTrmD
namespace Go.Proofs.Ytelepojpnkoelaa.T
open Go.RowKit L
set_option linter.unusedVariables false
set_option linter.unusedSimpArgs false

def exX : Tm := .mk 1 ⟨#[120]⟩ 0 []
def ex3 : Tm := .mk 4 ⟨#[]⟩ 3 []
def exT : Tm := .mk 3 ⟨#[102]⟩ 0 [exX, ex3]
theorem ex_size : size exT = 3 := rfl
theorem ex_depth : depth exT = 2 := rfl
theorem ex_apart : (all exT).Nodup := by simp [all, alls, exT, exX, ex3]
theorem ex_cmp : cmpT ex3 exX = 1 := rfl
/-- the example in memory -/
theorem ex_mem (w : World) : ∃ W, (w.alloc (.cells #[.int .i64 1, .string ⟨#[120]⟩, .int .i64 0, .slice none 0 0, .int .i64 4, .string ⟨#[]⟩, .int .i64 3, .slice none 0 0] 24)).alloc (.cells #[.int .i64 3, .string ⟨#[102]⟩, .int .i64 0, .slice (some ⟨w.heap.size, 0, none⟩) 2 2] 24) = W ∧ Below w.heap.size w W ∧ W.heap.size = w.heap.size + 2 ∧
    Blk W w.heap.size #[.int .i64 1, .string ⟨#[120]⟩, .int .i64 0, .slice none 0 0, .int .i64 4, .string ⟨#[]⟩, .int .i64 3, .slice none 0 0] 24 ∧ TBox W (w.heap.size + 1) 3 ⟨#[102]⟩ 0 (some ⟨w.heap.size, 0, none⟩) 2 2 := by
  refine ⟨_, rfl, bel_alloc (bel_alloc (Below.refl _ _) _) _, by simp, Blk.alloc (Blk.new w _ _) _, ?_⟩
  have := TBox.new (w.alloc (.cells #[.int .i64 1, .string ⟨#[120]⟩, .int .i64 0, .slice none 0 0, .int .i64 4, .string ⟨#[]⟩, .int .i64 3, .slice none 0 0] 24)) 3 ⟨#[102]⟩ 0 (some ⟨w.heap.size, 0, none⟩) 2 2
  rwa [World.size_alloc] at this
theorem leaf_ar (B : Nat) (w : World) (o : Int) (s : ByteArray) (z : Int) : Ar B w (.mk o s z []) none 0 0 := by
  rw [Ar]; exact ⟨rfl, Nat.le_refl _, Nat.zero_le _, fun _ => rfl, fun h => absurd h (by omega)⟩
theorem ex_ar {w W : World} (hb : Below w.heap.size w W) (hs : w.heap.size < W.heap.size) (h : Blk W w.heap.size #[.int .i64 1, .string ⟨#[120]⟩, .int .i64 0, .slice none 0 0, .int .i64 4, .string ⟨#[]⟩, .int .i64 3, .slice none 0 0] 24) : ArW W exT (some ⟨w.heap.size, 0, none⟩) 2 2 := by
  unfold ArW exT
  rw [Ar]
  refine ⟨rfl, Nat.le_refl _, by unfold maxLen; omega, fun h => (by cases h), fun _ => ⟨w.heap.size, 0, rfl, hs, ?_⟩⟩
  rw [Rw, Rw, Rw]
  exact ⟨⟨none, 0, 0, Blk.cell h 0, Blk.cell h 1, Blk.cell h 2, Blk.cell h 3, leaf_ar _ _ _ _ _⟩, ⟨none, 0, 0, Blk.cell h 4, Blk.cell h 5, Blk.cell h 6, Blk.cell h 7, leaf_ar _ _ _ _ _⟩, trivial⟩

set_option maxRecDepth 100000 in
set_option maxHeartbeats 8000000 in
theorem goes_any (w : World) : Calls Try.prog 6 #[] w fun e w' => e = .returned (.bool true) ∧ Below w.heap.size w w' := by
  obtain ⟨W, hW, hB, hs, R, S⟩ := ex_mem w
  have hA := ex_ar hB (by omega) R
  have hBd : Below W.heap.size W W.drew := (Below.refl _ _).drew
  have c1 := fun (w' : World) (h : Below W.heap.size W w') => tSize_any exT (some ⟨w.heap.size, 0, none⟩) 2 2 w' (ArW.b hA h)
  have c2 := fun (w' : World) (h : Below W.heap.size W w') => Depth_few exT (some ⟨w.heap.size, 0, none⟩) 2 2 w' (by rw [ex_size]; omega) (ArW.b hA h)
  have c3 := fun (w' : World) (h : Below W.heap.size W w') => Parts_few exT (some ⟨w.heap.size, 0, none⟩) 2 2 w' (by rw [ex_size]; omega) ex_apart (ArW.b hA h)
  have c4 := fun (w' : World) (h : Below W.heap.size W w') => Compare_any ex3 exX none 0 0 none 0 0 w' (leaf_ar _ _ _ _ _) (leaf_ar _ _ _ _ _)
  rw [ex_cmp] at c4
  rw [ex_size] at c1 c3
  rw [ex_depth] at c2
  have e1 : ((min 3 4097 : Nat) : Int) = 3 := rfl
  have e2 : ((min 2 65 : Nat) : Int) = 2 := rfl
  rw [e1] at c1
  rw [e2] at c2
  simp only [show opT exT = 3 from rfl, show nameT exT = ⟨#[102]⟩ from rfl, show numT exT = 0 from rfl] at c1 c2 c3
  simp only [show opT ex3 = 4 from rfl, show nameT ex3 = ⟨#[]⟩ from rfl, show numT ex3 = 3 from rfl, show opT exX = 1 from rfl, show nameT exX = ⟨#[120]⟩ from rfl, show numT exX = 0 from rfl] at c4
  have lS := Blk.lt S
  have lR := Blk.lt R
  obtain ⟨s0, s1, s2, s3⟩ := S.four
  have r0 := Blk.cell R 0
  have r1 := Blk.cell R 1
  have r2 := Blk.cell R 2
  have r3 := Blk.cell R 3
  have r4 := Blk.cell R 4
  have r5 := Blk.cell R 5
  have r6 := Blk.cell R 6
  have r7 := Blk.cell R 7
  clear hA e1 e2
  go_enter Try.func6, Try.ntmps6
  go_wp2_with fail
  go_region_held3 (fun w' => w'.cell? ⟨w.heap.size + 1, 0, none⟩ = some (.int .i64 3) ∧ w'.cell? ⟨w.heap.size + 1, 1, none⟩ = some (.string ⟨#[102]⟩) ∧ w'.cell? ⟨w.heap.size + 1, 2, none⟩ = some (.int .i64 0) ∧ w'.cell? ⟨w.heap.size + 1, 3, none⟩ = some (.slice (some ⟨w.heap.size, 0, none⟩) 2 2) ∧ w'.cell? ⟨w.heap.size, 0, none⟩ = some (.int .i64 1) ∧ w'.cell? ⟨w.heap.size, 1, none⟩ = some (.string ⟨#[120]⟩) ∧ w'.cell? ⟨w.heap.size, 2, none⟩ = some (.int .i64 0) ∧ w'.cell? ⟨w.heap.size, 3, none⟩ = some (.slice none 0 0) ∧ w'.cell? ⟨w.heap.size, 4, none⟩ = some (.int .i64 4) ∧ w'.cell? ⟨w.heap.size, 5, none⟩ = some (.string ⟨#[]⟩) ∧ w'.cell? ⟨w.heap.size, 6, none⟩ = some (.int .i64 3) ∧ w'.cell? ⟨w.heap.size, 7, none⟩ = some (.slice none 0 0))
    (first | (exact ⟨(Bz.cell lS).trans s0, (Bz.cell lS).trans s1, (Bz.cell lS).trans s2, (Bz.cell lS).trans s3, (Bz.cell lR).trans r0, (Bz.cell lR).trans r1, (Bz.cell lR).trans r2, (Bz.cell lR).trans r3, (Bz.cell lR).trans r4, (Bz.cell lR).trans r5, (Bz.cell lR).trans r6, (Bz.cell lR).trans r7⟩) | go_keep)
    (first
      | (go_at_call 18; ((with_reducible refine (c1 _ (by assumption)).mono ?_); rintro e w4 ⟨rfl, hb4⟩; have Bz := bel_trans (a := W) (by assumption) hb4))
      | (go_at_call 19; ((with_reducible refine (c2 _ (by assumption)).mono ?_); rintro e w4 ⟨rfl, hb4⟩; have Bz := bel_trans (a := W) (by assumption) hb4))
      | (go_at_call 9; ((with_reducible refine (c3 _ (by assumption)).mono ?_); rintro e w4 ⟨⟨A7, C7, rfl⟩, hb4⟩; have Bz := bel_trans (a := W) (by assumption) hb4))
      | (go_at_call 20; ((with_reducible refine (c4 _ (by assumption)).mono ?_); rintro e w4 ⟨rfl, hb4⟩; have Bz := bel_trans (a := W) (by assumption) hb4)))
  all_goals go_wp2
  all_goals go_ret
  all_goals exact ⟨rfl, bel_trans hB Bz⟩
end Go.Proofs.Ytelepojpnkoelaa.T
