/-
  What is proved: the chapter's examples hold.
-/
import Derived.Test.YthchjceibpcgbaaGreatDoorZCpX
import Derived.Test.YthchjceibpcgbaaGreatDoorZCpS
namespace Go.Proofs.YthchjceibpcgbaaGreatDoor.Cn
open Go.RowKit L Lt
set_option linter.unusedVariables false
set_option linter.unusedSimpArgs false
set_option maxRecDepth 100000

theorem ex_text : Dig.BA (if (rgC 2 [[1, -2], []]).2 = 0 then txT 2 [[1, -2], []] else []) = ⟨#[112, 32, 99, 110, 102, 32, 50, 32, 50, 10, 49, 32, 45, 50, 32, 48, 10, 48, 10]⟩ := by decide +kernel
theorem ex_err : (rgC 2 [[1, -2], []]).2 = 0 := by decide +kernel
theorem ex_read : rdC (⟨#[112, 32, 99, 110, 102, 32, 49, 32, 49, 10, 50, 32, 48, 10]⟩ : ByteArray).data.toList = ⟨0, [], 1, 1⟩ := by
  have h : (rdC [112, 32, 99, 110, 102, 32, 49, 32, 49, 10, 50, 32, 48, 10]).n = 0 ∧ (rdC [112, 32, 99, 110, 102, 32, 49, 32, 49, 10, 50, 32, 48, 10]).L = [] ∧ (rdC [112, 32, 99, 110, 102, 32, 49, 32, 49, 10, 50, 32, 48, 10]).line = 1 ∧ (rdC [112, 32, 99, 110, 102, 32, 49, 32, 49, 10, 50, 32, 48, 10]).e = 1 := by decide +kernel
  show rdC [112, 32, 99, 110, 102, 32, 49, 32, 49, 10, 50, 32, 48, 10] = _
  generalize rdC [112, 32, 99, 110, 102, 32, 49, 32, 49, 10, 50, 32, 48, 10] = R at *
  obtain ⟨a, b, c, d⟩ := R
  obtain ⟨h1, h2, h3, h4⟩ := h
  simp only at h1 h2 h3 h4
  rw [h1, h2, h3, h4]
set_option maxHeartbeats 4000000 in
theorem alive_any {W0 : World} (HT : Dig.Tab W0) (w : World) (hw : Below W0.heap.size W0 w) :
    Calls Tryz.prog 5 #[] w fun e w' => e = .returned (.bool true) ∧ Below w.heap.size w w' := by
  have b1 : Below w.heap.size w (w.alloc (.cells #[.int .i64 1, .int .i64 (-2)] 3)) := bel_alloc (Below.refl _ _) _
  have b2 : Below w.heap.size w ((w.alloc (.cells #[.int .i64 1, .int .i64 (-2)] 3)).alloc (.cells #[] 3)) := bel_alloc b1 _
  obtain ⟨W3, hW3⟩ : ∃ W3, ((w.alloc (.cells #[.int .i64 1, .int .i64 (-2)] 3)).alloc (.cells #[] 3)).alloc (.cells #[.slice (some ⟨w.heap.size, 0, none⟩) 2 2, .slice (some ⟨w.heap.size + 1, 0, none⟩) 0 0] 34) = W3 := ⟨_, rfl⟩
  have b3 : Below w.heap.size w W3 := by rw [← hW3]; exact bel_alloc b2 _
  have k1 : Blk W3 w.heap.size #[.int .i64 1, .int .i64 (-2)] 3 := by rw [← hW3]; exact Blk.alloc (Blk.alloc (Blk.new w _ _) _) _
  have k3 : Blk W3 (w.heap.size + 1 + 1) #[.slice (some ⟨w.heap.size, 0, none⟩) 2 2, .slice (some ⟨w.heap.size + 1, 0, none⟩) 0 0] 34 := by
    rw [← hW3]
    have := Blk.new ((w.alloc (.cells #[.int .i64 1, .int .i64 (-2)] 3)).alloc (.cells #[] 3)) #[.slice (some ⟨w.heap.size, 0, none⟩) 2 2, .slice (some ⟨w.heap.size + 1, 0, none⟩) 0 0] 34
    simpa using this
  have hS1 : SlI W3 (some ⟨w.heap.size, 0, none⟩) 2 2 [1, -2] := ⟨rfl, Nat.le_refl _, (fun e => by cases e), fun _ => ⟨_, _, rfl, Blk.lt k1, fun i hi => by
    match i, hi with
    | 0, _ => exact Blk.cell k1 0
    | 1, _ => exact Blk.cell k1 1⟩⟩
  have hG : SlG W3 (some ⟨w.heap.size + 1 + 1, 0, none⟩) 2 2 [[1, -2], []] := ⟨rfl, Nat.le_refl _, (fun e => by cases e), fun _ => ⟨_, _, rfl, Blk.lt k3, fun i hi => by
    match i, hi with
    | 0, _ => exact ⟨_, _, _, Blk.cell k3 0, hS1⟩
    | 1, _ => exact ⟨_, _, _, Blk.cell k3 1, rfl, Nat.le_refl _, (fun e => by cases e), fun h => absurd h (by omega)⟩⟩⟩
  have hz : (⟨2, some ⟨w.heap.size + 1 + 1, 0, none⟩, 2, 2, [[1, -2], []]⟩ : CfZ).ok W3 := ⟨⟨show (-9223372036854775808 : Int) ≤ 2 by decide, show (2 : Int) < 9223372036854775808 by decide⟩, show 2 ≤ 9223372036854775807 by decide, hG, fun X hX => by
    rcases List.mem_cons.1 hX with rfl | hX
    · exact ⟨fun x hx => by
        rcases List.mem_cons.1 hx with rfl | hx
        · exact ⟨by decide, by decide⟩
        · obtain rfl : x = -2 := by simpa using hx
          exact ⟨by decide, by decide⟩, by decide⟩
    · obtain rfl : X = [] := by simpa using hX
      exact ⟨(fun x hx => by cases hx), by decide⟩⟩
  have cT := Text_any HT ⟨2, some ⟨w.heap.size + 1 + 1, 0, none⟩, 2, 2, [[1, -2], []]⟩ W3 (hw.trans (b3.mono hw.size)) hz
  change Calls _ _ #[.agg #[.int .i64 2, .slice (some ⟨w.heap.size + 1 + 1, 0, none⟩) 2 2]] W3 (fun e w' => e = .returned (.tuple #[.string (Dig.BA (if (rgC 2 [[1, -2], []]).2 = 0 then txT 2 [[1, -2], []] else [])), .int .i64 (rgC 2 [[1, -2], []]).2]) ∧ Below W3.heap.size W3 w') at cT
  rw [ex_text, ex_err] at cT
  have cR := Lib.hid (fun W => by
    have := Read_any (⟨#[112, 32, 99, 110, 102, 32, 49, 32, 49, 10, 50, 32, 48, 10]⟩ : ByteArray) W (by decide)
    rw [ex_read] at this
    exact this)
  have B3 := Lib.hid b3
  clear hz hG hS1 k1 k3 b1 b2 b3 HT hw
  go_enter Tryz.func5, Tryz.ntmps5
  go_wp2_with (first
    | (go_at_call 19; ((with_reducible refine cT.mono ?_); rintro e w4 ⟨rfl, b4⟩; have B4 := Lib.hid (bel_trans B3.out b4); have cR4 := cR.out w4; clear b4))
    | (go_at_call 20; ((with_reducible refine cR4.mono ?_); rintro e w5 ⟨A5, m5, k5, rfl, hS5, hb5⟩; have B5 := Lib.hid (bel_trans B4.out hb5); clear hS5 hb5)))
  go_ret
  exact ⟨rfl, bel_alloc B5.out _⟩
end Go.Proofs.YthchjceibpcgbaaGreatDoor.Cn
