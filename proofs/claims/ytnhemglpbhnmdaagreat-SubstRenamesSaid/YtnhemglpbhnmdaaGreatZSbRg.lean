/-
  What is proved: package sequiturlaw10's right returns a bool for claims of few parts; where it is true the terms of the list are right and low.
-/
import Derived.Test.YtnhemglpbhnmdaaGreatZSbDx
import Derived.Test.YtnhemglpbhnmdaaGreatZSbTm
namespace Go.Proofs.YtnhemglpbhnmdaaGreat.U
open Go.RowKit L T C
set_option linter.unusedVariables false
set_option linter.unusedSimpArgs false

theorem one_of_us {B : Nat} {w : World} {b o n c k : Nat} {l : List Pr} {p : Pr} (h : IsU B w (some ⟨b, o, none⟩) n c l) (hk : k < n) (hp : l[k]? = some p) (C : Nat) (hC : 1 ≤ C) (hC2 : C ≤ maxLen) : IsU B w (some ⟨b, o + k * 5, none⟩) 1 C [p] := by
  refine ⟨rfl, hC, hC2, (fun h => by cases h), fun _ => ?_⟩
  obtain ⟨b', o', ha, hlt, hr⟩ := h.2.2.2.2 (by omega)
  injection ha with ha
  injection ha with e1 e2
  subst e1 e2
  refine ⟨b, o + k * 5, rfl, hlt, fun i q hi => ?_⟩
  cases i with
  | zero =>
    simp only [List.getElem?_cons_zero, Option.some.injEq] at hi
    subst hi
    have := hr k p hp
    simpa using this
  | succ i => simp at hi
theorem rg_one (p : Pr) : rgU none [p] = rightE p.t := by
  rw [rgU, rgU]
  by_cases h : rightE p.t ≠ 0
  · rw [if_pos h]
  · rw [if_neg h, if_neg (by simp [badN])]; omega
set_option maxRecDepth 100000 in
set_option maxHeartbeats 8000000 in
theorem right10_any (l : List Pr) (t : Cl) (hw : wt t ≤ 4096) (A : Option Addr) (m d : Nat) (ks : SS) (a : Option Addr) (n c : Nat) (w : World) (hG : UsW w A m d l) (hA : ArWC w t ks a n c) :
    Calls Tryz.prog 7 #[.slice A m d, .agg #[.int .i64 (opC t), .string (nmC t), .string (soC t), .slice ks.a ks.n ks.c, .slice a n c]] w fun e w' => ∃ b : Bool, e = .returned (.bool b) ∧ (b = true → ∀ p ∈ l, lowT p.t = true ∧ rightE p.t = 0) ∧ Below w.heap.size w w' := by
  obtain ⟨KA, kn, kc⟩ := ks
  obtain ⟨W2, hW2, hB2, hs2, S2⟩ := cbox1 w (opC t) (nmC t) (soC t) ⟨KA, kn, kc⟩ a n c
  have hA2 := ArWC.b hA hB2
  have hG2 := UsW.b hG hB2
  have cR := fun (w' : World) (h : Below W2.heap.size W2 w') => Cs.cRight_few t ⟨KA, kn, kc⟩ a n c w' hw (ArWC.b hA2 h)
  have cT := fun (w' : World) (h : Below W2.heap.size W2 w') => rterms_any t ⟨KA, kn, kc⟩ a n c w' (ArWC.b hA2 h)
  have hm : m ≤ 9223372036854775807 := hG.lt63
  have hmd : m ≤ d := hG.2.1
  have hdm : d ≤ maxLen := hG.2.2.1
  have HG := Lib.hid hG2
  have HS := Lib.hid S2
  have HL := Lib.hid (show l.length = m from hG.1.symm)
  obtain ⟨s0, s1, s2, s3, s4⟩ := S2.five
  dsimp only at *
  clear hA hA2 hG hG2 S2 hs2 hw
  generalize crightE t = CR at *
  generalize opC t = op at *
  generalize nmC t = nm at *
  generalize soC t = so at *
  go_enter Tryz.func7, Tryz.ntmps7
  go_wp2
  go_loopw [5] (fun i wr0 => ∃ (wr : World) (k : Nat), wr = wr0 ∧ k ≤ m ∧ i = .int .i64 k ∧ Below W2.heap.size W2 wr ∧ Hid (∀ j p, j < k → l[j]? = some p → lowT p.t = true ∧ rightE p.t = 0)) (fun i _ => m - (intOf i).toNat)
  case atStart => exact ⟨_, 0, rfl, by omega, rfl, Below.refl _ _, Lib.hid fun j p h => absurd h (by omega)⟩
  case round =>
    obtain ⟨wr, k, rfl, hk, rfl, hB, hH⟩ := hrel
    by_cases hlt : k < m
    · obtain ⟨bb, o, x, A', M, Cc, rfl, hb, y0, y1, y2, y3, y4, hx, hok⟩ := HG.out.at hlt
      have t1 := (hB.cell (p := ⟨bb, _, none⟩) hb).trans y1
      have t2 := (hB.cell (p := ⟨bb, _, none⟩) hb).trans y2
      have t3 := (hB.cell (p := ⟨bb, _, none⟩) hb).trans y3
      have t4 := (hB.cell (p := ⟨bb, _, none⟩) hb).trans y4
      have cLow := LowT_any x.t A' M Cc wr (ArW.b hok hB)
      have cOne := fun (w' : World) (h : Below W2.heap.size W2 w') => RightU10_any [x] (some ⟨bb, o + k * 5, none⟩) 1 (d - k) w' (UsW.b (one_of_us HG.out hlt hx (d - k) (by omega) (Nat.le_trans (Nat.sub_le _ _) hdm)) h)
      rw [rg_one] at cOne
      have HX := Lib.hid hx
      have hkd : (k : Int) + 1 ≤ (d : Int) := by omega
      have hkd0 : (k : Int) ≤ (k : Int) + 1 := by omega
      have hk0 : 0 ≤ (k : Int) := by omega
      have hk1 : (k : Int) < (m : Int) := by omega
      have hk2 : 0 ≤ (k : Int) + 1 := by omega
      have hwr : IntKind.i64.wrap ((k : Int) + 1) = (k : Int) + 1 := by rw [IntKind.wrap_i64]; omega
      clear y0 y1 y2 y3 y4 hx hok
      generalize hlo : lowT x.t = lo at *
      generalize hri : rightE x.t = ri at *
      generalize opT x.t = op' at *
      generalize nameT x.t = nm' at *
      generalize numT x.t = nu' at *
      cases lo with
      | false =>
        go_wp2_with (go_at_call 30; ((with_reducible refine cLow.mono ?_); rintro e w8 ⟨rfl, hb8⟩))
        go_ret
        exact ⟨_, rfl, fun h => (by cases h), bel_trans hB2 (bel_trans hB hb8)⟩
      | true =>
        by_cases hr : ri = 0
        · have p1 : (ri != 0) = false := by rw [hr]; rfl
          have hnew : Hid (∀ j p, j < k + 1 → l[j]? = some p → lowT p.t = true ∧ rightE p.t = 0) := Lib.hid fun j p hj hp => by
            rcases Nat.lt_or_ge j k with h | h
            · exact hH.out j p h hp
            · have e : j = k := by omega
              subst e
              rw [HX.out] at hp
              injection hp with hp
              subst hp
              exact ⟨hlo, hri.trans hr⟩
          clear hr hlo hri hH
          go_wp2_with (first
            | (go_at_call 30; ((with_reducible refine cLow.mono ?_); rintro e w8 ⟨rfl, hb8⟩; have B8 := bel_trans hB hb8))
            | (go_at_call 31; ((with_reducible refine (cOne _ B8).mono ?_); rintro e w9 ⟨rfl, hb9⟩)))
          go_roundw
          case rel => exact ⟨_, k + 1, rfl, by omega, by go_num, bel_trans B8 hb9, hnew⟩
          case measure => simp [intOf]; omega
        · have p1 : (ri != 0) = true := bne_iff_ne.2 hr
          clear hr hlo hri hH
          go_wp2_with (first
            | (go_at_call 30; ((with_reducible refine cLow.mono ?_); rintro e w8 ⟨rfl, hb8⟩; have B8 := bel_trans hB hb8))
            | (go_at_call 31; ((with_reducible refine (cOne _ B8).mono ?_); rintro e w9 ⟨rfl, hb9⟩)))
          go_ret
          exact ⟨_, rfl, fun h => (by cases h), bel_trans hB2 (bel_trans B8 hb9)⟩
    · have hge : ¬ (k : Int) < (m : Int) := by omega
      obtain ⟨u0, u1, u2, u3, u4⟩ := (CBox.b HS.out hB).five
      have HAll := Lib.hid (show ∀ p ∈ l, lowT p.t = true ∧ rightE p.t = 0 from fun p hp => by
        obtain ⟨j, hj, rfl⟩ := List.getElem_of_mem hp
        exact hH.out j _ (by have := HL.out; omega) (List.getElem?_eq_getElem hj))
      clear hH
      by_cases hc : CR = 0
      · have p1 : (CR == 0) = true := by rw [hc]; rfl
        clear hc
        go_wp2_with (first
          | (go_at_call 32; ((with_reducible refine (cR _ hB).mono ?_); rintro e w8 ⟨rfl, hb8⟩; have B8 := bel_trans hB hb8; obtain ⟨i0, i1, i2, i3, i4⟩ := (CBox.b HS.out B8).five))
          | (go_at_call 33; ((with_reducible refine (cT _ B8).mono ?_); rintro e w9 ⟨b9, rfl, hb9⟩)))
        go_ret
        exact ⟨_, rfl, fun _ => HAll.out, bel_trans hB2 (bel_trans B8 hb9)⟩
      · have p1 : (CR == 0) = false := beq_no' hc
        clear hc
        go_wp2_with (go_at_call 32; ((with_reducible refine (cR _ hB).mono ?_); rintro e w8 ⟨rfl, hb8⟩; have B8 := bel_trans hB hb8))
        go_ret
        exact ⟨_, rfl, fun h => (by cases h), bel_trans hB2 B8⟩
end Go.Proofs.YtnhemglpbhnmdaaGreat.U
