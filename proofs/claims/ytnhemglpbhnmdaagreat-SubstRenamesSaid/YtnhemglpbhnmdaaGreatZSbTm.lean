/-
  What is proved: package sequiturref10's Terms and package sequiturlaw10's right return a bool; where it is true the terms of the list are right and low.
-/
import Derived.Test.YtnhemglpbhnmdaaGreatZSbL
import Derived.Test.YtnhemglpbhnmdaaGreatZSbD
import Derived.Test.YtnhemglpbhnmdaaGreatBM
import Derived.Test.YtnhemglpbhnmdaaGreatZRgtS
import Derived.Test.YtnhemglpbhnmdaaGreatBC
import Derived.Test.YtnhemglpbhnmdaaGreatZCsR
namespace Go.Proofs.YtnhemglpbhnmdaaGreat.U
open Go.RowKit L T C
set_option linter.unusedVariables false
set_option linter.unusedSimpArgs false

def RTermsOk (t : Cl) : Prop := ∀ (ks : SS) (a : Option Addr) (n c : Nat) (w : World), ArWC w t ks a n c →
  Calls Tryz.prog 33 #[.agg #[.int .i64 (opC t), .string (nmC t), .string (soC t), .slice ks.a ks.n ks.c, .slice a n c]] w fun e w' => ∃ b : Bool, e = .returned (.bool b) ∧ Below w.heap.size w w'
set_option maxRecDepth 100000 in
set_option maxHeartbeats 8000000 in
theorem rterms_step (t : Cl) (hok : ∀ x ∈ subC t, RTermsOk x) : RTermsOk t := by
  intro ks a n c w hA
  obtain ⟨KA, kn, kc⟩ := ks
  obtain ⟨W2, hW2, hB2, hs2, S2⟩ := cbox1 w (opC t) (nmC t) (soC t) ⟨KA, kn, kc⟩ a n c
  have hA2 := ArWC.b hA hB2
  have cBig := fun (w' : World) (h : Below W2.heap.size W2 w') => Big_any t ⟨KA, kn, kc⟩ a n c 4000 w' (by omega) (ArWC.b hA2 h)
  rw [show ((4000 : Nat) : Int) = 4000 from rfl] at cBig
  have hT := ArWC.terms hA2
  have hC := ArWC.subs hA2
  have hn : n ≤ 9223372036854775807 := by have h1 := hC.2.1; have h2 := hC.2.2.1; unfold maxLen at h2; omega
  have hkn : kn ≤ 9223372036854775807 := by have h1 := hT.2.1; have h2 := hT.2.2.1; dsimp only at h1 h2; unfold maxLen at h2; omega
  have HT := Lib.hid hT
  have HC := Lib.hid hC
  have HK := Lib.hid (show ∀ k x, (subC t)[k]? = some x → RTermsOk x from fun k x h => hok x (List.mem_of_getElem? h))
  have HS := Lib.hid S2
  obtain ⟨s0, s1, s2, s3, s4⟩ := S2.five
  dsimp only at *
  clear hA hA2 hT hC hok S2 hs2
  generalize hbig : decide (4000 < wtTo 4000 t) = BG at *
  clear hbig
  generalize subC t = lc at *
  generalize tsC t = lt at *
  generalize opC t = op at *
  generalize nmC t = nm at *
  generalize soC t = so at *
  go_enter Tryz.func33, Tryz.ntmps33
  go_wp2
  go_loopw [3] (fun i wr0 => ∃ (wr : World) (k : Nat), wr = wr0 ∧ k ≤ kn ∧ i = .int .i64 k ∧ Below W2.heap.size W2 wr) (fun i _ => kn - (intOf i).toNat)
  case atStart => exact ⟨_, 0, rfl, by omega, rfl, Below.refl _ _⟩
  case round =>
    obtain ⟨wr, k, rfl, hk, rfl, hB⟩ := hrel
    obtain ⟨e0, e1, e2, e3, e4⟩ := (CBox.b HS.out hB).five
    by_cases hlt : k < kn
    · obtain ⟨bb, o, x, A, M, Cc, rfl, hb, y0, y1, y2, y3, hx, hok⟩ := HT.out.at hlt
      have t0 := (hB.cell (p := ⟨bb, _, none⟩) hb).trans y0
      have t1 := (hB.cell (p := ⟨bb, _, none⟩) hb).trans y1
      have t2 := (hB.cell (p := ⟨bb, _, none⟩) hb).trans y2
      have t3 := (hB.cell (p := ⟨bb, _, none⟩) hb).trans y3
      have cR := Right7_any x A M Cc wr (ArW.b hok hB)
      clear y0 y1 y2 y3 hx hok
      generalize rightE x = r at *
      generalize opT x = op' at *
      generalize nameT x = nm' at *
      generalize numT x = nu' at *
      have hk0 : 0 ≤ (k : Int) := by omega
      have hk1 : (k : Int) < (kn : Int) := by omega
      by_cases hr : r = 0
      · have p1 : (r != 0) = false := by rw [hr]; rfl
        clear hr
        go_wp2_with (go_at_call 59; ((with_reducible refine cR.mono ?_); rintro e w8 ⟨rfl, hb8⟩))
        go_roundw
        case rel => exact ⟨_, k + 1, rfl, by omega, by go_num, bel_trans hB hb8⟩
        case measure => simp [intOf]; omega
      · have p1 : (r != 0) = true := bne_iff_ne.2 hr
        clear hr
        go_wp2_with (go_at_call 59; ((with_reducible refine cR.mono ?_); rintro e w8 ⟨rfl, hb8⟩))
        go_ret
        exact ⟨_, rfl, bel_trans hB2 (bel_trans hB hb8)⟩
    · have hge : ¬ (k : Int) < (kn : Int) := by omega
      go_wp2
      go_loopw [4] (fun i wr0 => ∃ (wr : World) (k : Nat), wr = wr0 ∧ k ≤ n ∧ i = .int .i64 k ∧ Below W2.heap.size W2 wr) (fun i _ => n - (intOf i).toNat)
      case atStart => exact ⟨_, 0, rfl, by omega, rfl, hB⟩
      case round =>
        obtain ⟨wr, k, rfl, hk, rfl, hB⟩ := hrel
        obtain ⟨f0, f1, f2, f3, f4⟩ := (CBox.b HS.out hB).five
        by_cases hlt : k < n
        · obtain ⟨bb, o, x, ⟨xa, xn, xc⟩, A, M, Cc, rfl, hb, y0, y1, y2, y3, y4, hx, hok⟩ := HC.out.at hlt
          dsimp only at y3
          have t0 := (hB.cell (p := ⟨bb, _, none⟩) hb).trans y0
          have t1 := (hB.cell (p := ⟨bb, _, none⟩) hb).trans y1
          have t2 := (hB.cell (p := ⟨bb, _, none⟩) hb).trans y2
          have t3 := (hB.cell (p := ⟨bb, _, none⟩) hb).trans y3
          have t4 := (hB.cell (p := ⟨bb, _, none⟩) hb).trans y4
          have cR := HK.out k x hx ⟨xa, xn, xc⟩ A M Cc wr (ArWC.b hok hB)
          clear y0 y1 y2 y3 y4 hx hok
          dsimp only at cR
          generalize opC x = op' at *
          generalize nmC x = nm' at *
          generalize soC x = nu' at *
          have hk0 : 0 ≤ (k : Int) := by omega
          have hk1 : (k : Int) < (n : Int) := by omega
          go_wp2_with (go_at_call 33; ((with_reducible refine cR.mono ?_); rintro e w8 ⟨(_ | _), rfl, hb8⟩))
          · go_ret
            exact ⟨_, rfl, bel_trans hB2 (bel_trans hB hb8)⟩
          · go_roundw
            case rel => exact ⟨_, k + 1, rfl, by omega, by go_num, bel_trans hB hb8⟩
            case measure => simp [intOf]; omega
        · have hge : ¬ (k : Int) < (n : Int) := by omega
          go_wp2_with (go_at_call 6; ((with_reducible refine (cBig _ hB).mono ?_); rintro e w8 ⟨rfl, hb8⟩))
          go_ret
          exact ⟨_, rfl, bel_trans hB2 (bel_trans hB hb8)⟩
theorem rterms_any (t : Cl) : RTermsOk t := Cl.ind rterms_step t
end Go.Proofs.YtnhemglpbhnmdaaGreat.U
