/-
  What is proved: the first error of a signature, by the document's answers.
-/
import Derived.Test.YtakcbpmdjdadnaaSgnF
import Derived.Deep.RegionHeld3
namespace Go.Proofs.Ytakcbpmdjdadnaa.Sgn
open Go.RowKit L Srt
set_option linter.unusedVariables false
set_option linter.unusedSimpArgs false

set_option maxRecDepth 100000 in
set_option maxHeartbeats 4000000 in
theorem refRight6_any (a : Option Addr) (n c : Nat) (S : List ByteArray) (b : Option Addr) (m d : Nat) (G : List Fm) (w : World) (hS : SlS w a n c S) (hn : n ≤ 1000000) (hz : okZ S) (hG : SlG w b m d G) (hK : okK (cores G)) :
    Calls Try.prog 12 #[.agg #[.slice a n c, .slice b m d]] w fun e w' => e = .returned (.int .i64 (signE S (cores G))) ∧ Below w.heap.size w w' := by
  have hB1 : Below w.heap.size w (w.alloc (.cells #[.slice a n c, .slice b m d] 25)) := bel_alloc (Below.refl _ _) _
  have S1 := SBox.new w a n c b m d
  obtain ⟨W1, hW1⟩ : ∃ W1, w.alloc (.cells #[.slice a n c, .slice b m d] 25) = W1 := ⟨_, rfl⟩
  rw [hW1] at hB1 S1
  have cR : Calls Try.prog 31 #[.slice a n c] W1 fun e w1 => e = .returned (.int .i64 (rightV S)) ∧ Below W1.heap.size W1 w1 := refRight_any a n c S W1 (hS.below hB1) hz (by omega)
  have hlen : (cores G).length = m := by rw [cores_len]; exact hG.1.1.symm
  have hm : m ≤ 1000000 := by rw [← hlen]; exact hK.1
  have hmd : m ≤ d := hG.2.1
  have hE : signE S (cores G) = if rightV S ≠ 0 then rightV S else if 256 < m then 2 else rgtK S ((cores G).take 0) ((cores G).drop 0) := by unfold signE; rw [hlen]; rfl
  have hst : ∀ k (f : Fm), G[k]? = some f → rgtK S ((cores G).take k) ((cores G).drop k) = if checkE S f.core ≠ 0 then checkE S f.core else if hasN ((cores G).take k) f.name = true then 4 else rgtK S ((cores G).take (k + 1)) ((cores G).drop (k + 1)) := fun k f h => rgtK_at (cores_at h)
  have he : ∀ k, m ≤ k → rgtK S ((cores G).take k) ((cores G).drop k) = 0 := fun k h => rgtK_end (by rw [hlen]; exact h)
  obtain ⟨F, hF⟩ : ∃ F : Nat → Int, ∀ k, rgtK S ((cores G).take k) ((cores G).drop k) = F k := ⟨_, fun _ => rfl⟩
  simp only [hF] at hst he hE
  clear hF
  generalize signE S (cores G) = E at *
  have cC : ∀ (f : Fm) (k : Nat) w', G[k]? = some f → Below w.heap.size w w' → f.ok w' → Calls Try.prog 14 #[.agg #[.slice a n c, .slice b m d], .agg #[.string f.name, .slice f.a f.m f.c, .string f.res]] w' fun e w1 => e = .returned (.int .i64 (checkE S f.core)) ∧ Below w'.heap.size w' w1 :=
    fun f k w' hk h h2 => refCheck_any a n c S b m d f w' (hS.below h) hn h2 (hK.at (cores_at hk))
  have cP : ∀ (k : Nat) (s : ByteArray) w', k ≤ m → Below w.heap.size w w' → Calls Try.prog 32 #[.slice b k d, .string s] w' fun e w1 => e = .returned (.int .i64 (posK (cores (G.take k)) s)) ∧ w1 = w' :=
    fun k s w' hk h => refPlace_any s b k d (G.take k) w' ((hG.below h).1.take k hk) (by omega)
  have hI : ∀ w', Below w.heap.size w w' → IsG w' b m G := fun w' h => (hG.below h).1
  obtain ⟨s0, s1⟩ := S1.two
  clear hS hG hK hz hlen
  by_cases hR0 : rightV S = 0
  · rw [hR0] at cR
    rw [if_neg (by simp [hR0])] at hE
    by_cases h256 : 256 < m
    · rw [if_pos h256] at hE
      have HE := Lib.hid hE
      have h257 : 256 < (m : Int) := by omega
      clear hE hst he cC cP hI
      go_enter Try.func12, Try.ntmps12
      go_wp2_with (go_at_call 31; ((with_reducible refine cR.mono ?_); rintro e w1 ⟨rfl, hb1⟩; have S2 := S1.b hb1; have B2 := bel_trans hB1 hb1; obtain ⟨s20, s21⟩ := S2.two))
      go_ret
      exact ⟨ret HE.out, B2⟩
    · rw [if_neg h256] at hE
      have h257 : ¬ 256 < (m : Int) := by omega
      have HE := Lib.hid hE
      have Hst := Lib.hid hst
      have He := Lib.hid he
      have HC := Lib.hid cC
      have HP := Lib.hid cP
      have HI := Lib.hid hI
      clear hE hst he cC cP hI
      go_enter Try.func12, Try.ntmps12
      go_wp2_with (go_at_call 31; ((with_reducible refine cR.mono ?_); rintro e w1 ⟨rfl, hb1⟩; have S2 := S1.b hb1; have B2 := bel_trans hB1 hb1; obtain ⟨s20, s21⟩ := S2.two))
      clear cR s0 s1 hW1
      go_loopw [4] (fun i wr0 => ∃ (wr : World) (k : Nat), wr = wr0 ∧ k ≤ m ∧ i = .int .i64 k ∧ Below w.heap.size w wr ∧ SBox wr w.heap.size a n c b m d ∧ Hid (F k = F 0)) (fun i _ => m - (intOf i).toNat)
      case atStart => exact ⟨_, 0, rfl, by omega, rfl, B2, S2, Lib.hid rfl⟩
      case round =>
        obtain ⟨wr, k, rfl, hk, rfl, hB, Sk, hR⟩ := hrel
        obtain ⟨t0, t1⟩ := Sk.two
        have lg := Blk.lt Sk
        clear s20 s21 S2 B2 hb1
        by_cases hlt : k < m
        · obtain ⟨bb, o, f, rfl, hb, y1, y2, y3, hx, hok⟩ := (HI.out wr hB).at hlt
          have hs1 := Hst.out k f hx
          have hk0 : 0 ≤ (k : Int) := by omega
          have hk1 : (k : Int) < (m : Int) := by omega
          have hk2 : (k : Int) ≤ (d : Int) := by omega
          have hBd : Below wr.heap.size wr wr.drew := (Below.refl _ _).drew
          have cc := HC.out f k wr.drew hx (bel_trans hB hBd) (hok.below hBd)
          have cp := fun w' h => HP.out k f.name w' hk h
          clear hx Hst HI HC HP hok
          by_cases h0 : checkE S f.core = 0
          · rw [h0] at cc
            rw [if_neg (by simp [h0])] at hs1
            have hea := posK_has (cores (G.take k)) f.name
            rw [cores_take] at hea
            rw [cores_take] at cp
            generalize posK ((cores G).take k) f.name = P at *
            generalize hasN ((cores G).take k) f.name = T at *
            generalize f.name = nm at *
            generalize f.a = A at *
            generalize f.m = M at *
            generalize f.c = Cc at *
            generalize f.res = rs at *
            cases T with
            | true =>
              have hnew : Hid (F 0 = 4) := by show _ = _; rw [← hR.out, hs1, if_pos rfl]
              have hp : 0 ≤ P := of_decide_eq_true hea
              clear hR hs1 hea
              go_wp2_with fail
              go_region_held3 (fun w' => w'.cell? ⟨w.heap.size, 0, none⟩ = some (.slice a n c) ∧ w'.cell? ⟨w.heap.size, 1, none⟩ = some (.slice (some ⟨bb, o, none⟩) m d) ∧ w'.cell? ⟨bb, o + k * 3, none⟩ = some (.string nm) ∧ w'.cell? ⟨bb, o + k * 3 + 1, none⟩ = some (.slice A M Cc) ∧ w'.cell? ⟨bb, o + k * 3 + 1 + 1, none⟩ = some (.string rs))
                (first | go_keep | (exact ⟨(B4.cell lg).trans t0, (B4.cell lg).trans t1, (B4.cell hb).trans y1, (B4.cell hb).trans y2, (B4.cell hb).trans y3⟩))
                (first | (go_at_call 14; ((with_reducible refine cc.mono ?_); rintro e w4 ⟨rfl, hb4⟩; have B4 := bel_trans hBd hb4)))
              have S4 := Sk.b B4
              have hB4 := bel_trans hB B4
              obtain ⟨s40, s41⟩ := S4.two
              have z1 := (B4.cell hb).trans y1
              go_wp2
              go_quiet ((go_at_call 32; exact Calls.quiet_of_same (cp _ (below_drewN hB4 _))))
              go_wp2
              go_ret
              exact ⟨ret (HE.out.trans hnew.out), below_drewN hB4 _⟩
            | false =>
              have hnew : Hid (F (k + 1) = F 0) := by show _ = _; rw [← hR.out, hs1, if_neg (by simp)]
              have hp : ¬ 0 ≤ P := of_decide_eq_false hea
              clear hR hs1 hea
              go_wp2_with fail
              go_region_held3 (fun w' => w'.cell? ⟨w.heap.size, 0, none⟩ = some (.slice a n c) ∧ w'.cell? ⟨w.heap.size, 1, none⟩ = some (.slice (some ⟨bb, o, none⟩) m d) ∧ w'.cell? ⟨bb, o + k * 3, none⟩ = some (.string nm) ∧ w'.cell? ⟨bb, o + k * 3 + 1, none⟩ = some (.slice A M Cc) ∧ w'.cell? ⟨bb, o + k * 3 + 1 + 1, none⟩ = some (.string rs))
                (first | go_keep | (exact ⟨(B4.cell lg).trans t0, (B4.cell lg).trans t1, (B4.cell hb).trans y1, (B4.cell hb).trans y2, (B4.cell hb).trans y3⟩))
                (first | (go_at_call 14; ((with_reducible refine cc.mono ?_); rintro e w4 ⟨rfl, hb4⟩; have B4 := bel_trans hBd hb4)))
              have S4 := Sk.b B4
              have hB4 := bel_trans hB B4
              obtain ⟨s40, s41⟩ := S4.two
              have z1 := (B4.cell hb).trans y1
              go_wp2
              go_quiet ((go_at_call 32; exact Calls.quiet_of_same (cp _ (below_drewN hB4 _))))
              go_wp2
              go_roundw
              case rel => exact ⟨_, k + 1, rfl, by omega, by go_num, below_drewN hB4 _, S4.b (below_drewN (Below.refl _ _) _), hnew⟩
              case measure => simp [intOf]; omega
          · have h1 : (checkE S f.core != 0) = true := by simp [h0]
            rw [if_pos h0] at hs1
            have hnew : Hid (F 0 = checkE S f.core) := by show _ = _; rw [← hR.out, hs1]
            clear hR hs1
            generalize checkE S f.core = X at *
            generalize f.name = nm at *
            generalize f.a = A at *
            generalize f.m = M at *
            generalize f.c = Cc at *
            generalize f.res = rs at *
            go_wp2_with fail
            go_region_held3 (fun w' => w'.cell? ⟨w.heap.size, 0, none⟩ = some (.slice a n c) ∧ w'.cell? ⟨w.heap.size, 1, none⟩ = some (.slice (some ⟨bb, o, none⟩) m d) ∧ w'.cell? ⟨bb, o + k * 3, none⟩ = some (.string nm) ∧ w'.cell? ⟨bb, o + k * 3 + 1, none⟩ = some (.slice A M Cc) ∧ w'.cell? ⟨bb, o + k * 3 + 1 + 1, none⟩ = some (.string rs))
              (first | go_keep | (exact ⟨(B4.cell lg).trans t0, (B4.cell lg).trans t1, (B4.cell hb).trans y1, (B4.cell hb).trans y2, (B4.cell hb).trans y3⟩))
              (first | (go_at_call 14; ((with_reducible refine cc.mono ?_); rintro e w4 ⟨rfl, hb4⟩; have B4 := bel_trans hBd hb4)))
            go_wp2
            go_ret
            exact ⟨ret (HE.out.trans hnew.out), bel_trans hB B4⟩
        · have hnew : Hid (F 0 = 0) := by show _ = _; rw [← hR.out, He.out k (by omega)]
          clear hR
          go_wp2
          go_ret
          exact ⟨ret (HE.out.trans hnew.out), hB⟩
  · have h1 : (rightV S != 0) = true := by simp [hR0]
    rw [if_pos hR0] at hE
    have HE := Lib.hid hE
    clear hE hst he cC cP hI
    generalize rightV S = R at *
    go_enter Try.func12, Try.ntmps12
    go_wp2_with (go_at_call 31; ((with_reducible refine cR.mono ?_); rintro e w1 ⟨rfl, hb1⟩; have S2 := S1.b hb1; have B2 := bel_trans hB1 hb1; obtain ⟨s20, s21⟩ := S2.two))
    go_ret
    exact ⟨ret HE.out, B2⟩
end Go.Proofs.Ytakcbpmdjdadnaa.Sgn
