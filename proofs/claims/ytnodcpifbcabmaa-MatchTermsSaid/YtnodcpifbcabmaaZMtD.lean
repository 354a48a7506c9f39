/-
  What is proved: package match's set of names; the function that it matches by.
-/
import Derived.Test.YtnodcpifbcabmaaZMtC
namespace Go.Proofs.Ytnodcpifbcabmaa.Mt
open Go.RowKit L T C U
set_option linter.unusedVariables false
set_option linter.unusedSimpArgs false

set_option maxRecDepth 100000 in
set_option maxHeartbeats 4000000 in
theorem setOf_any (X : List ByteArray) (a : Option Addr) (n c : Nat) (w : World) (hX : IsS w a n X) (hn : n ≤ 1000000) (hs : ∀ x ∈ X, x.size ≤ maxLen) :
    Calls Try.prog 71 #[.slice a n c] w fun e w' => e = .returned (.map (some w.heap.size)) ∧ SetM w' w.heap.size X ∧ Below w.heap.size w w' := by
  have hl : n = X.length := hX.1
  have hmm := @run_makeMap Try.prog
  have hB1 : Below w.heap.size w (w.alloc (.map #[] 0)) := bel_alloc (Below.refl _ _) _
  have HM := Lib.hid (show SetM (w.alloc (.map #[] 0)) w.heap.size (X.take 0) from by rw [List.take_zero]; exact SetM.made w)
  have HX := Lib.hid hX
  have HS := Lib.hid hs
  have HE := Lib.hid (show X.take n = X from List.take_of_length_le (by omega))
  have HL := Lib.hid hl
  clear hX hs hl
  go_enter Try.func71, Try.ntmps71
  go_wp2
  go_loopw [9] (fun i wr0 => ∃ (wr : World) (k : Nat), wr = wr0 ∧ k ≤ n ∧ i = .int .i64 k ∧ Below w.heap.size w wr ∧ Hid (SetM wr w.heap.size (X.take k))) (fun i _ => n - (intOf i).toNat)
  case atStart => exact ⟨_, 0, rfl, by omega, rfl, hB1, HM⟩
  case round =>
    obtain ⟨wr, k, rfl, hk, rfl, hB, hM⟩ := hrel
    clear HM hB1 hmm
    by_cases hlt : k < n
    · obtain ⟨bb, o, x, rfl, hb, yw, hx, _⟩ := HX.out.at hlt
      have y0 := (hB.cell (p := ⟨bb, _, none⟩) hb).trans yw
      obtain ⟨w4, hrun, hM4, hg4⟩ := hM.out.put (by rw [List.length_take]; unfold maxLen; omega) x (HS.out x (List.mem_of_getElem? hx))
      have HM4 := Lib.hid (show SetM w4 w.heap.size (X.take (k + 1)) from by rw [List.take_add_one, hx]; exact hM4)
      have hB4 : Below w.heap.size w w4 := hB.grown hg4 hB.size (fun q hq => by injection hq with hq; omega)
      have hk0 : 0 ≤ (k : Int) := by omega
      have hk1 : (k : Int) < (n : Int) := by omega
      clear hM hM4 hg4 hx yw
      go_wp2
      go_roundw
      case rel => exact ⟨_, k + 1, rfl, by omega, by go_num, hB4, HM4⟩
      case measure => simp [intOf]; omega
    · obtain rfl : k = n := by omega
      have HM2 := Lib.hid (show SetM wr w.heap.size X from by rw [← HE.out]; exact hM.out)
      clear hM
      go_wp2
      go_ret
      exact ⟨rfl, HM2.out, hB⟩
set_option maxRecDepth 100000 in
/-- a matcher made: its two boxes and the one that holds it -/
theorem matcher_any (B : Nat) (X : List ByteArray) (g gs : Nat) (w : World) (hS : SetM w gs X) (hne : gs ≠ g) (hg : g < w.heap.size) (hB : B ≤ g) :
    Calls Try.prog 73 #[.map (some g), .map (some gs)] w fun e w' => e = .returned (clo (w.heap.size + 1) (w.heap.size + 2) w.heap.size) ∧ Ctx B X (w.heap.size + 1) (w.heap.size + 2) w.heap.size gs g w' ∧ Below w.heap.size w w' := by
  obtain ⟨W1, hW1⟩ : ∃ W1, (w.alloc (.cells #[.map (some g)] 80)).alloc (.cells #[.map (some gs)] 78) = W1 := ⟨_, rfl⟩
  have hb1 : Below w.heap.size w W1 := by rw [← hW1]; exact bel_alloc (bel_alloc (Below.refl _ _) _) _
  have hs1 : W1.heap.size = w.heap.size + 2 := by rw [← hW1]; simp
  have O1 : Blk W1 w.heap.size #[.map (some g)] 80 := by rw [← hW1]; exact Blk.below (Blk.new w _ _) (bel_alloc (Below.refl _ _) _)
  have V1 : Blk W1 (w.heap.size + 1) #[.map (some gs)] 78 := by
    rw [← hW1]
    have := Blk.new (w.alloc (.cells #[.map (some g)] 80)) #[.map (some gs)] 78
    rwa [World.size_alloc] at this
  obtain ⟨W3, hW3⟩ : ∃ W3, W1.alloc (.cells #[.nilFunc] 34) = W3 := ⟨_, rfl⟩
  have hb3 : Below W1.heap.size W1 W3 := by rw [← hW3]; exact bel_alloc (Below.refl _ _) _
  have M3 : Blk W3 (w.heap.size + 2) #[.nilFunc] 34 := by rw [← hW3, ← hs1]; exact Blk.new W1 _ _
  have k0 := Blk.cell M3 0
  have k1 := Blk.free M3 0
  obtain ⟨W2, hW2⟩ : ∃ W2, W3.setCell ⟨w.heap.size + 2, 0, none⟩ (clo (w.heap.size + 1) (w.heap.size + 2) w.heap.size) = W2 := ⟨_, rfl⟩
  have hb2 : Below W1.heap.size W1 W2 := by rw [← hW2]; exact below_set hb3 (by omega) _ _
  have M2 : Blk W2 (w.heap.size + 2) #[clo (w.heap.size + 1) (w.heap.size + 2) w.heap.size] 34 := by rw [← hW2]; exact blk_cell_set M3 _
  have hst : (store ⟨w.heap.size + 2, 0, none⟩ (clo (w.heap.size + 1) (w.heap.size + 2) w.heap.size)).run Try.prog W3 = .ok () W2 := by
    have k0' : W3.cell? ⟨w.heap.size + 2, 0, none⟩ = some .nilFunc := k0
    rw [run_store Try.prog W3 _ _ _ rfl, ← hW2]
    simp [k0', k1]
  have hBb := bel_trans hb1 hb2
  have HC := Lib.hid (show Ctx B X (w.heap.size + 1) (w.heap.size + 2) w.heap.size gs g W2 from ⟨Blk.below V1 hb2, M2, Blk.below O1 hb2, hS.b hBb, hne, by omega, by omega, by omega, hB, Nat.lt_of_lt_of_le hg hBb.size, by have := hBb.size; omega⟩)
  have m0 := Blk.cell M2 0
  clear O1 V1 M2 M3 hb1 hb2 hb3 hS
  unfold clo at hW2 m0 hst ⊢
  go_enter Try.func73, Try.ntmps73
  go_wp2
  go_ret
  exact ⟨rfl, HC.out, hBb⟩
end Go.Proofs.Ytnodcpifbcabmaa.Mt
