/-
  What is proved: the first error of a signature, by package sign.
-/
import Derived.Test.YtakcbpmdjdadnaaSgnD
import Derived.Test.YtakcbpmdjdadnaaSgnE
namespace Go.Proofs.Ytakcbpmdjdadnaa.Sgn
open Go.RowKit L Srt
set_option linter.unusedVariables false
set_option linter.unusedSimpArgs false

set_option maxHeartbeats 4000000 in
theorem Right6_any (a : Option Addr) (n c : Nat) (S : List ByteArray) (b : Option Addr) (m d : Nat) (G : List Fm) (w : World) (hS : SlS w a n c S) (hn : n ≤ 1000000) (hz : okZ S) (hG : SlG w b m d G) (hK : okK (cores G)) :
    Calls Try.prog 11 #[.agg #[.slice a n c, .slice b m d]] w fun e w' => e = .returned (.int .i64 (signE S (cores G))) ∧ Below w.heap.size w w' := by
  have hB1 : Below w.heap.size w (w.alloc (.cells #[.slice a n c, .slice b m d] 25)) := bel_alloc (Below.refl _ _) _
  have S1 := SBox.new w a n c b m d
  obtain ⟨W1, hW1⟩ : ∃ W1, w.alloc (.cells #[.slice a n c, .slice b m d] 25) = W1 := ⟨_, rfl⟩
  rw [hW1] at hB1 S1
  have cR : Calls Try.prog 29 #[.slice a n c] W1 fun e w1 => e = .returned (.int .i64 (rightV S)) ∧ Below W1.heap.size W1 w1 := Right_any a n c S W1 (hS.below hB1).1 hz (by omega)
  have hlen : (cores G).length = m := by rw [cores_len]; exact hG.1.1.symm
  have hm : m ≤ 1000000 := by rw [← hlen]; exact hK.1
  have hE : signE S (cores G) = if rightV S ≠ 0 then rightV S else if 256 < m then 2 else rgtK S ((cores G).take 0) ((cores G).drop 0) := by unfold signE; rw [hlen]; rfl
  have hst : ∀ k (f : Fm), G[k]? = some f → rgtK S ((cores G).take k) ((cores G).drop k) = if checkE S f.core ≠ 0 then checkE S f.core else if hasN ((cores G).take k) f.name = true then 4 else rgtK S ((cores G).take (k + 1)) ((cores G).drop (k + 1)) := fun k f h => rgtK_at (cores_at h)
  have he : ∀ k, m ≤ k → rgtK S ((cores G).take k) ((cores G).drop k) = 0 := fun k h => rgtK_end (by rw [hlen]; exact h)
  have hearly : ∀ (k : Nat) (f : Fm), G[k]? = some f → decide (posK (cores G) f.name < (k : Int)) = hasN ((cores G).take k) f.name := fun k f h => posK_early (cores_at h)
  obtain ⟨F, hF⟩ : ∃ F : Nat → Int, ∀ k, rgtK S ((cores G).take k) ((cores G).drop k) = F k := ⟨_, fun _ => rfl⟩
  simp only [hF] at hst he hE
  clear hF
  generalize signE S (cores G) = E at *
  have cC : ∀ (f : Fm) (k : Nat) w', G[k]? = some f → Below w.heap.size w w' → f.ok w' → Calls Try.prog 13 #[.agg #[.slice a n c, .slice b m d], .agg #[.string f.name, .slice f.a f.m f.c, .string f.res]] w' fun e w1 => e = .returned (.int .i64 (checkE S f.core)) ∧ Below w'.heap.size w' w1 :=
    fun f k w' hk h h2 => Check_any a n c S b m d f w' (hS.below h) hn h2 (hK.at (cores_at hk))
  have cP : ∀ (s : ByteArray) w', Below w.heap.size w w' → Calls Try.prog 30 #[.slice b m d, .string s] w' fun e w1 => e = .returned (.int .i64 (posK (cores G) s)) ∧ Below w'.heap.size w' w1 :=
    fun s w' h => place_any s b m d G w' (hG.below h).1 (by omega)
  have hI : ∀ w', Below w.heap.size w w' → IsG w' b m G := fun w' h => (hG.below h).1
  obtain ⟨s0, s1⟩ := S1.two
  clear hS hG hK hz hlen
  by_cases hR0 : rightV S = 0
  · rw [hR0] at cR
    rw [if_neg (by simp [hR0])] at hE
    by_cases h256 : 256 < m
    · rw [if_pos h256] at hE
      have HE := Lib.hid hE
      have h257 : 256 < (m : Int) := by omega
      clear hE hst he hearly cC cP hI
      go_enter Try.func11, Try.ntmps11
      go_wp2_with (go_at_call 29; ((with_reducible refine cR.mono ?_); rintro e w1 ⟨rfl, hb1⟩; have S2 := S1.b hb1; have B2 := bel_trans hB1 hb1; obtain ⟨s20, s21⟩ := S2.two))
      go_ret
      exact ⟨ret HE.out, B2⟩
    · rw [if_neg h256] at hE
      have h257 : ¬ 256 < (m : Int) := by omega
      have HE := Lib.hid hE
      have Hst := Lib.hid hst
      have He := Lib.hid he
      have Hearly := Lib.hid hearly
      have HC := Lib.hid cC
      have HP := Lib.hid cP
      have HI := Lib.hid hI
      clear hE hst he hearly cC cP hI
      go_enter Try.func11, Try.ntmps11
      go_wp2_with (go_at_call 29; ((with_reducible refine cR.mono ?_); rintro e w1 ⟨rfl, hb1⟩; have S2 := S1.b hb1; have B2 := bel_trans hB1 hb1; obtain ⟨s20, s21⟩ := S2.two))
      clear cR s0 s1 hW1
      go_loopw [20] (fun i wr0 => ∃ (wr : World) (k : Nat), wr = wr0 ∧ k ≤ m ∧ i = .int .i64 k ∧ Below w.heap.size w wr ∧ SBox wr w.heap.size a n c b m d ∧ Hid (F k = F 0)) (fun i _ => m - (intOf i).toNat)
      case atStart => exact ⟨_, 0, rfl, by omega, rfl, B2, S2, Lib.hid rfl⟩
      case round =>
        obtain ⟨wr, k, rfl, hk, rfl, hB, Sk, hR⟩ := hrel
        obtain ⟨t0, t1⟩ := Sk.two
        clear s20 s21 S2 B2 hb1
        by_cases hlt : k < m
        · obtain ⟨bb, o, f, rfl, hb, y1, y2, y3, hx, hok⟩ := (HI.out wr hB).at hlt
          have hs1 := Hst.out k f hx
          have hea := Hearly.out k f hx
          have hk0 : 0 ≤ (k : Int) := by omega
          have hk1 : (k : Int) < (m : Int) := by omega
          have hB3 : Below wr.heap.size wr (wr.alloc (.cells #[.string f.name, .slice f.a f.m f.c, .string f.res] 27)) := bel_alloc (Below.refl _ _) _
          have F3 := FBox.new wr f.name f.a f.m f.c f.res
          obtain ⟨W3, hW3⟩ : ∃ W3, wr.alloc (.cells #[.string f.name, .slice f.a f.m f.c, .string f.res] 27) = W3 := ⟨_, rfl⟩
          rw [hW3] at hB3 F3
          have S3 := Sk.b hB3
          have B3 := bel_trans hB hB3
          have cc := HC.out f k W3 hx B3 (hok.below hB3)
          have cp := fun w' h => HP.out f.name w' h
          obtain ⟨u0, u1⟩ := S3.two
          obtain ⟨g0, g1, g2⟩ := F3.three
          clear hx Hst HI HC HP Hearly hok
          by_cases h0 : checkE S f.core = 0
          · rw [h0] at cc
            rw [if_neg (by simp [h0])] at hs1
            generalize posK (cores G) f.name = P at *
            generalize hasN ((cores G).take k) f.name = T at *
            generalize f.name = nm at *
            generalize f.a = A at *
            generalize f.m = M at *
            generalize f.c = Cc at *
            generalize f.res = rs at *
            cases T with
            | true =>
              have hnew : Hid (F 0 = 4) := by show _ = _; rw [← hR.out, hs1, if_pos rfl]
              have hp : P < (k : Int) := of_decide_eq_true hea
              clear hR hs1 hea
              go_wp2_with (first
                | (go_at_call 13; ((with_reducible refine cc.mono ?_); rintro e w4 ⟨rfl, hb4⟩; have S4 := S3.b hb4; have F4 := F3.b hb4; have B4 := bel_trans B3 hb4; obtain ⟨s40, s41⟩ := S4.two; obtain ⟨f40, f41, f42⟩ := F4.three))
                | (go_at_call 30; ((with_reducible refine (cp _ B4).mono ?_); rintro e w5 ⟨rfl, hb5⟩; have B5 := bel_trans B4 hb5)))
              go_ret
              exact ⟨ret (HE.out.trans hnew.out), B5⟩
            | false =>
              have hnew : Hid (F (k + 1) = F 0) := by show _ = _; rw [← hR.out, hs1, if_neg (by simp)]
              have hp : ¬ P < (k : Int) := of_decide_eq_false hea
              clear hR hs1 hea
              go_wp2_with (first
                | (go_at_call 13; ((with_reducible refine cc.mono ?_); rintro e w4 ⟨rfl, hb4⟩; have S4 := S3.b hb4; have F4 := F3.b hb4; have B4 := bel_trans B3 hb4; obtain ⟨s40, s41⟩ := S4.two; obtain ⟨f40, f41, f42⟩ := F4.three))
                | (go_at_call 30; ((with_reducible refine (cp _ B4).mono ?_); rintro e w5 ⟨rfl, hb5⟩; have B5 := bel_trans B4 hb5; have S5 := S4.b hb5)))
              go_roundw
              case rel => exact ⟨_, k + 1, rfl, by omega, by go_num, B5, S5, hnew⟩
              case measure => simp [intOf]; omega
          · have h1 : (checkE S f.core != 0) = true := by simp [h0]
            rw [if_pos h0] at hs1
            have hnew : Hid (F 0 = checkE S f.core) := by show _ = _; rw [← hR.out, hs1]
            clear hR hs1 hea
            generalize checkE S f.core = X at *
            generalize f.name = nm at *
            generalize f.a = A at *
            generalize f.m = M at *
            generalize f.c = Cc at *
            generalize f.res = rs at *
            go_wp2_with (go_at_call 13; ((with_reducible refine cc.mono ?_); rintro e w4 ⟨rfl, hb4⟩; have B4 := bel_trans B3 hb4))
            go_ret
            exact ⟨ret (HE.out.trans hnew.out), B4⟩
        · have hnew : Hid (F 0 = 0) := by show _ = _; rw [← hR.out, He.out k (by omega)]
          clear hR
          go_wp2
          go_ret
          exact ⟨ret (HE.out.trans hnew.out), hB⟩
  · have h1 : (rightV S != 0) = true := by simp [hR0]
    rw [if_pos hR0] at hE
    have HE := Lib.hid hE
    clear hE hst he hearly cC cP hI
    generalize rightV S = R at *
    go_enter Try.func11, Try.ntmps11
    go_wp2_with (go_at_call 29; ((with_reducible refine cR.mono ?_); rintro e w1 ⟨rfl, hb1⟩; have S2 := S1.b hb1; have B2 := bel_trans hB1 hb1; obtain ⟨s20, s21⟩ := S2.two))
    go_ret
    exact ⟨ret HE.out, B2⟩
end Go.Proofs.Ytakcbpmdjdadnaa.Sgn
