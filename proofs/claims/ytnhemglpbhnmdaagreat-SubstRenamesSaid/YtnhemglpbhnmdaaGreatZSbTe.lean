/-
  What is proved: what the document's Terms answers: whether all terms of a claim are right, and it is not too great.
-/
import Derived.Test.YtnhemglpbhnmdaaGreatZSbDx
import Derived.Test.YtnhemglpbhnmdaaGreatZSbTm
import Derived.Test.YtnhemglpbhnmdaaGreatZSbRg
import Derived.Test.YtnhemglpbhnmdaaGreatZSbAe
namespace Go.Proofs.YtnhemglpbhnmdaaGreat.U
open Go.RowKit L T C B
set_option linter.unusedVariables false
set_option linter.unusedSimpArgs false

mutual
def rtB : Cl → Bool
  | .mk o s z ts l => ts.all (fun t => rightE t == 0) && (rtBs l && !decide (4000 < wtTo 4000 (.mk o s z ts l)))
def rtBs : List Cl → Bool
  | [] => true
  | t :: l => rtB t && rtBs l
end
theorem rtB_mk (t : Cl) : rtB t = ((tsC t).all (fun t => rightE t == 0) && (rtBs (subC t) && !decide (4000 < wtTo 4000 t))) := by cases t; rw [rtB]; rfl
theorem rall_step {l : List Tm} {k : Nat} {x : Tm} (h : l[k]? = some x) : (l.drop k).all (fun t => rightE t == 0) = ((rightE x == 0) && (l.drop (k + 1)).all (fun t => rightE t == 0)) := by rw [drop_t h, List.all_cons]
theorem rtBs_step {l : List Cl} {k : Nat} {x : Cl} (h : l[k]? = some x) : rtBs (l.drop k) = (rtB x && rtBs (l.drop (k + 1))) := by rw [drop_c h, rtBs]
def RTermsE (t : Cl) : Prop := ∀ (ks : SS) (a : Option Addr) (n c : Nat) (w : World), ArWC w t ks a n c →
  Calls Tryz.prog 33 #[.agg #[.int .i64 (opC t), .string (nmC t), .string (soC t), .slice ks.a ks.n ks.c, .slice a n c]] w fun e w' => e = .returned (.bool (rtB t)) ∧ Below w.heap.size w w'
set_option maxRecDepth 100000 in
set_option maxHeartbeats 8000000 in
theorem rtermsE_step (t : Cl) (hok : ∀ x ∈ subC t, RTermsE x) : RTermsE t := by
  intro ks a n c w hA
  obtain ⟨KA, kn, kc⟩ := ks
  obtain ⟨W2, hW2, hB2, hs2, S2⟩ := cbox1 w (opC t) (nmC t) (soC t) ⟨KA, kn, kc⟩ a n c
  have hA2 := ArWC.b hA hB2
  have cBig := fun (w' : World) (h : Below W2.heap.size W2 w') => Big_any t ⟨KA, kn, kc⟩ a n c 4000 w' (by omega) (ArWC.b hA2 h)
  rw [show ((4000 : Nat) : Int) = 4000 from rfl] at cBig
  have hT := ArWC.terms hA2
  have hC := ArWC.subs hA2
  have hn : n ≤ 9223372036854775807 := by have h1 := hC.2.1; have h2 := hC.2.2.1; unfold maxLen at h2; omega
  have hl1 := hT.1
  have hl2 := hC.1
  have hkn : kn ≤ 9223372036854775807 := by have h1 := hT.2.1; have h2 := hT.2.2.1; dsimp only at h1 h2; unfold maxLen at h2; omega
  have HT := Lib.hid hT
  have HC := Lib.hid hC
  have HL1 := Lib.hid (show ∀ k, kn ≤ k → ((tsC t).drop k).all (fun t => rightE t == 0) = true from fun k h => by rw [List.drop_eq_nil_of_le (by rw [← hl1]; exact h)]; rfl)
  have HL2 := Lib.hid (show ∀ k, n ≤ k → rtBs ((subC t).drop k) = true from fun k h => by rw [List.drop_eq_nil_of_le (by rw [← hl2]; exact h), rtBs])
  have HK := Lib.hid (show ∀ k x, (subC t)[k]? = some x → RTermsE x from fun k x h => hok x (List.mem_of_getElem? h))
  have HS := Lib.hid S2
  obtain ⟨s0, s1, s2, s3, s4⟩ := S2.five
  dsimp only at *
  clear hA hA2 hT hC hok S2 hs2 hl1 hl2
  have H0 := Lib.hid (show (((tsC t).drop 0).all (fun t => rightE t == 0) && (rtBs ((subC t).drop 0) && !decide (4000 < wtTo 4000 t))) = rtB t from (rtB_mk t).symm)
  generalize hbig : decide (4000 < wtTo 4000 t) = BG at *
  clear hbig
  generalize rtB t = RR at *
  generalize subC t = lc at *
  generalize tsC t = lt at *
  generalize opC t = op at *
  generalize nmC t = nm at *
  generalize soC t = so at *
  go_enter Tryz.func33, Tryz.ntmps33
  go_wp2
  go_loopw [3] (fun i wr0 => ∃ (wr : World) (k : Nat), wr = wr0 ∧ k ≤ kn ∧ i = .int .i64 k ∧ Below W2.heap.size W2 wr ∧ Hid (((lt.drop k).all (fun t => rightE t == 0) && (rtBs (lc.drop 0) && !BG)) = RR)) (fun i _ => kn - (intOf i).toNat)
  case atStart => exact ⟨_, 0, rfl, by omega, rfl, Below.refl _ _, H0⟩
  case round =>
    obtain ⟨wr, k, rfl, hk, rfl, hB, hH⟩ := hrel
    obtain ⟨e0, e1, e2, e3, e4⟩ := (CBox.b HS.out hB).five
    by_cases hlt : k < kn
    · obtain ⟨bb, o, x, A, M, Cc, rfl, hb, y0, y1, y2, y3, hx, hok⟩ := HT.out.at hlt
      have t0 := (hB.cell (p := ⟨bb, _, none⟩) hb).trans y0
      have t1 := (hB.cell (p := ⟨bb, _, none⟩) hb).trans y1
      have t2 := (hB.cell (p := ⟨bb, _, none⟩) hb).trans y2
      have t3 := (hB.cell (p := ⟨bb, _, none⟩) hb).trans y3
      have cR := Right7_any x A M Cc wr (ArW.b hok hB)
      have hst := rall_step hx
      have hH2 := hH.out
      rw [hst] at hH2
      clear hst hH
      clear y0 y1 y2 y3 hx hok
      generalize rightE x = r at *
      generalize opT x = op' at *
      generalize nameT x = nm' at *
      generalize numT x = nu' at *
      have hk0 : 0 ≤ (k : Int) := by omega
      have hk1 : (k : Int) < (kn : Int) := by omega
      by_cases hr : r = 0
      · have p1 : (r != 0) = false := by rw [hr]; rfl
        have Hn := Lib.hid (show ((lt.drop (k + 1)).all (fun t => rightE t == 0) && (rtBs (lc.drop 0) && !BG)) = RR from by rw [← hH2, hr]; rfl)
        clear hr hH2
        go_wp2_with (go_at_call 59; ((with_reducible refine cR.mono ?_); rintro e w8 ⟨rfl, hb8⟩))
        go_roundw
        case rel => exact ⟨_, k + 1, rfl, by omega, by go_num, bel_trans hB hb8, Hn⟩
        case measure => simp [intOf]; omega
      · have p1 : (r != 0) = true := bne_iff_ne.2 hr
        have Hn := Lib.hid (show false = RR from by rw [← hH2, beq_no' hr]; rfl)
        clear hr hH2
        go_wp2_with (go_at_call 59; ((with_reducible refine cR.mono ?_); rintro e w8 ⟨rfl, hb8⟩))
        go_ret
        exact ⟨congrArg (fun b => Ending.returned (Value.bool b)) Hn.out, bel_trans hB2 (bel_trans hB hb8)⟩
    · have hge : ¬ (k : Int) < (kn : Int) := by omega
      have H2 := Lib.hid (show (rtBs (lc.drop 0) && !BG) = RR from by have := hH.out; rw [HL1.out k (by omega), Bool.true_and] at this; exact this)
      clear hH
      go_wp2
      go_loopw [4] (fun i wr0 => ∃ (wr : World) (k : Nat), wr = wr0 ∧ k ≤ n ∧ i = .int .i64 k ∧ Below W2.heap.size W2 wr ∧ Hid ((rtBs (lc.drop k) && !BG) = RR)) (fun i _ => n - (intOf i).toNat)
      case atStart => exact ⟨_, 0, rfl, by omega, rfl, hB, H2⟩
      case round =>
        clear H2
        obtain ⟨wr, k, rfl, hk, rfl, hB, hH⟩ := hrel
        obtain ⟨f0, f1, f2, f3, f4⟩ := (CBox.b HS.out hB).five
        by_cases hlt : k < n
        · obtain ⟨bb, o, x, ⟨xa, xn, xc⟩, A, M, Cc, rfl, hb, y0, y1, y2, y3, y4, hx, hok⟩ := HC.out.at hlt
          dsimp only at y3
          have t0 := (hB.cell (p := ⟨bb, _, none⟩) hb).trans y0
          have t1 := (hB.cell (p := ⟨bb, _, none⟩) hb).trans y1
          have t2 := (hB.cell (p := ⟨bb, _, none⟩) hb).trans y2
          have t3 := (hB.cell (p := ⟨bb, _, none⟩) hb).trans y3
          have t4 := (hB.cell (p := ⟨bb, _, none⟩) hb).trans y4
          have cR := HK.out k x hx ⟨xa, xn, xc⟩ A M Cc wr (ArWC.b hok hB)
          have hst := rtBs_step hx
          have hH2 := hH.out
          rw [hst] at hH2
          clear hst hH
          generalize rtB x = rx at *
          clear y0 y1 y2 y3 y4 hx hok
          dsimp only at cR
          generalize opC x = op' at *
          generalize nmC x = nm' at *
          generalize soC x = nu' at *
          have hk0 : 0 ≤ (k : Int) := by omega
          have hk1 : (k : Int) < (n : Int) := by omega
          cases rx with
          | false =>
            have Hn := Lib.hid (show false = RR from hH2)
            clear hH2
            go_wp2_with (go_at_call 33; ((with_reducible refine cR.mono ?_); rintro e w8 ⟨rfl, hb8⟩))
            go_ret
            exact ⟨congrArg (fun b => Ending.returned (Value.bool b)) Hn.out, bel_trans hB2 (bel_trans hB hb8)⟩
          | true =>
            have Hn := Lib.hid (show (rtBs (lc.drop (k + 1)) && !BG) = RR from hH2)
            clear hH2
            go_wp2_with (go_at_call 33; ((with_reducible refine cR.mono ?_); rintro e w8 ⟨rfl, hb8⟩))
            go_roundw
            case rel => exact ⟨_, k + 1, rfl, by omega, by go_num, bel_trans hB hb8, Hn⟩
            case measure => simp [intOf]; omega
        · have hge : ¬ (k : Int) < (n : Int) := by omega
          have Hn := Lib.hid (show (!BG) = RR from by have := hH.out; rw [HL2.out k (by omega), Bool.true_and] at this; exact this)
          clear hH
          go_wp2_with (go_at_call 6; ((with_reducible refine (cBig _ hB).mono ?_); rintro e w8 ⟨rfl, hb8⟩))
          go_ret
          exact ⟨congrArg (fun b => Ending.returned (Value.bool b)) Hn.out, bel_trans hB2 (bel_trans hB hb8)⟩
theorem rtermsE_any (t : Cl) : RTermsE t := Cl.ind rtermsE_step t
/-- what the law's own check of a substitution and a claim answers -/
def r10 (l : List Pr) (t : Cl) : Bool := l.all (fun p => lowT p.t && (rightE p.t == 0)) && ((crightE t == 0) && rtB t)
theorem r10_no {l : List Pr} {t : Cl} {k : Nat} {x : Pr} (hx : l[k]? = some x) (h : lowT x.t = false ∨ rightE x.t ≠ 0) : r10 l t = false := by
  unfold r10
  have : l.all (fun p => lowT p.t && (rightE p.t == 0)) = false := by
    rw [List.all_eq_false]
    refine ⟨x, List.mem_of_getElem? hx, ?_⟩
    rcases h with h | h
    · rw [h]; simp
    · rw [beq_no' h]; simp
  rw [this]; rfl
theorem r10_yes {l : List Pr} {t : Cl} (h : ∀ p ∈ l, lowT p.t = true ∧ rightE p.t = 0) : r10 l t = ((crightE t == 0) && rtB t) := by
  unfold r10
  rw [List.all_eq_true.2 (fun p hp => by obtain ⟨h1, h2⟩ := h p hp; rw [h1, h2]; rfl), Bool.true_and]
theorem r10_low {l : List Pr} {t : Cl} (h : r10 l t = true) : ∀ p ∈ l, okN p.t := fun p hp => by
  unfold r10 at h
  rw [Bool.and_eq_true, List.all_eq_true] at h
  have := h.1 p hp
  rw [Bool.and_eq_true, beq_iff_eq] at this
  exact okN_of p.t this.1 (rightE_part this.2)
set_option maxRecDepth 100000 in
set_option maxHeartbeats 8000000 in
theorem right10E_any (l : List Pr) (t : Cl) (hw : wt t ≤ 4096) (A : Option Addr) (m d : Nat) (ks : SS) (a : Option Addr) (n c : Nat) (w : World) (hG : UsW w A m d l) (hA : ArWC w t ks a n c) :
    Calls Tryz.prog 7 #[.slice A m d, .agg #[.int .i64 (opC t), .string (nmC t), .string (soC t), .slice ks.a ks.n ks.c, .slice a n c]] w fun e w' => e = .returned (.bool (r10 l t)) ∧ Below w.heap.size w w' := by
  obtain ⟨KA, kn, kc⟩ := ks
  obtain ⟨W2, hW2, hB2, hs2, S2⟩ := cbox1 w (opC t) (nmC t) (soC t) ⟨KA, kn, kc⟩ a n c
  have hA2 := ArWC.b hA hB2
  have hG2 := UsW.b hG hB2
  have cR := fun (w' : World) (h : Below W2.heap.size W2 w') => Cs.cRight_few t ⟨KA, kn, kc⟩ a n c w' hw (ArWC.b hA2 h)
  have cT := fun (w' : World) (h : Below W2.heap.size W2 w') => rtermsE_any t ⟨KA, kn, kc⟩ a n c w' (ArWC.b hA2 h)
  have hm : m ≤ 9223372036854775807 := hG.lt63
  have hmd : m ≤ d := hG.2.1
  have hdm : d ≤ maxLen := hG.2.2.1
  have HG := Lib.hid hG2
  have HS := Lib.hid S2
  have HL := Lib.hid (show l.length = m from hG.1.symm)
  obtain ⟨s0, s1, s2, s3, s4⟩ := S2.five
  dsimp only at *
  clear hA hA2 hG hG2 S2 hs2 hw
  have HF0 := Lib.hid (show ∀ k x, l[k]? = some x → (lowT x.t = false ∨ rightE x.t ≠ 0) → r10 l t = false from fun k x hx h => r10_no hx h)
  have HF1 := Lib.hid (show (∀ p ∈ l, lowT p.t = true ∧ rightE p.t = 0) → r10 l t = ((crightE t == 0) && rtB t) from fun h => r10_yes h)
  generalize r10 l t = RR at *
  generalize rtB t = RT at *
  generalize crightE t = CR at *
  generalize opC t = op at *
  generalize nmC t = nm at *
  generalize soC t = so at *
  go_enter Tryz.func7, Tryz.ntmps7
  go_wp2
  go_loopw [5] (fun i wr0 => ∃ (wr : World) (k : Nat), wr = wr0 ∧ k ≤ m ∧ i = .int .i64 k ∧ Below W2.heap.size W2 wr ∧ Hid (∀ j p, j < k → l[j]? = some p → lowT p.t = true ∧ rightE p.t = 0)) (fun i _ => m - (intOf i).toNat)
  case atStart => exact ⟨_, 0, rfl, by omega, rfl, Below.refl _ _, Lib.hid fun j p h => absurd h (by omega)⟩
  case round =>
    obtain ⟨wr, k, rfl, hk, rfl, hB, hH⟩ := hrel
    by_cases hlt : k < m
    · obtain ⟨bb, o, x, A', M, Cc, rfl, hb, y0, y1, y2, y3, y4, hx, hok⟩ := HG.out.at hlt
      have t1 := (hB.cell (p := ⟨bb, _, none⟩) hb).trans y1
      have t2 := (hB.cell (p := ⟨bb, _, none⟩) hb).trans y2
      have t3 := (hB.cell (p := ⟨bb, _, none⟩) hb).trans y3
      have t4 := (hB.cell (p := ⟨bb, _, none⟩) hb).trans y4
      have cLow := LowT_any x.t A' M Cc wr (ArW.b hok hB)
      have cOne := fun (w' : World) (h : Below W2.heap.size W2 w') => RightU10_any [x] (some ⟨bb, o + k * 5, none⟩) 1 (d - k) w' (UsW.b (one_of_us HG.out hlt hx (d - k) (by omega) (Nat.le_trans (Nat.sub_le _ _) hdm)) h)
      rw [rg_one] at cOne
      have HX := Lib.hid hx
      have hkd : (k : Int) + 1 ≤ (d : Int) := by omega
      have hkd0 : (k : Int) ≤ (k : Int) + 1 := by omega
      have hk0 : 0 ≤ (k : Int) := by omega
      have hk1 : (k : Int) < (m : Int) := by omega
      have hk2 : 0 ≤ (k : Int) + 1 := by omega
      have hwr : IntKind.i64.wrap ((k : Int) + 1) = (k : Int) + 1 := by rw [IntKind.wrap_i64]; omega
      clear y0 y1 y2 y3 y4 hx hok
      generalize hlo : lowT x.t = lo at *
      generalize hri : rightE x.t = ri at *
      generalize opT x.t = op' at *
      generalize nameT x.t = nm' at *
      generalize numT x.t = nu' at *
      cases lo with
      | false =>
        go_wp2_with (go_at_call 30; ((with_reducible refine cLow.mono ?_); rintro e w8 ⟨rfl, hb8⟩))
        go_ret
        exact ⟨congrArg (fun b => Ending.returned (Value.bool b)) (HF0.out k x HX.out (.inl hlo)).symm, bel_trans hB2 (bel_trans hB hb8)⟩
      | true =>
        by_cases hr : ri = 0
        · have p1 : (ri != 0) = false := by rw [hr]; rfl
          have hnew : Hid (∀ j p, j < k + 1 → l[j]? = some p → lowT p.t = true ∧ rightE p.t = 0) := Lib.hid fun j p hj hp => by
            rcases Nat.lt_or_ge j k with h | h
            · exact hH.out j p h hp
            · have e : j = k := by omega
              subst e
              rw [HX.out] at hp
              injection hp with hp
              subst hp
              exact ⟨hlo, hri.trans hr⟩
          clear hr hlo hri hH
          go_wp2_with (first
            | (go_at_call 30; ((with_reducible refine cLow.mono ?_); rintro e w8 ⟨rfl, hb8⟩; have B8 := bel_trans hB hb8))
            | (go_at_call 31; ((with_reducible refine (cOne _ B8).mono ?_); rintro e w9 ⟨rfl, hb9⟩)))
          go_roundw
          case rel => exact ⟨_, k + 1, rfl, by omega, by go_num, bel_trans B8 hb9, hnew⟩
          case measure => simp [intOf]; omega
        · have p1 : (ri != 0) = true := bne_iff_ne.2 hr
          have Hn := Lib.hid (HF0.out k x HX.out (.inr (by rw [hri]; exact hr)))
          clear hr hlo hri hH
          go_wp2_with (first
            | (go_at_call 30; ((with_reducible refine cLow.mono ?_); rintro e w8 ⟨rfl, hb8⟩; have B8 := bel_trans hB hb8))
            | (go_at_call 31; ((with_reducible refine (cOne _ B8).mono ?_); rintro e w9 ⟨rfl, hb9⟩)))
          go_ret
          exact ⟨congrArg (fun b => Ending.returned (Value.bool b)) Hn.out.symm, bel_trans hB2 (bel_trans B8 hb9)⟩
    · have hge : ¬ (k : Int) < (m : Int) := by omega
      obtain ⟨u0, u1, u2, u3, u4⟩ := (CBox.b HS.out hB).five
      have HAll := Lib.hid (show ∀ p ∈ l, lowT p.t = true ∧ rightE p.t = 0 from fun p hp => by
        obtain ⟨j, hj, rfl⟩ := List.getElem_of_mem hp
        exact hH.out j _ (by have := HL.out; omega) (List.getElem?_eq_getElem hj))
      have hF := HF1.out HAll.out
      clear hH
      by_cases hc : CR = 0
      · have p1 : (CR == 0) = true := by rw [hc]; rfl
        rw [p1, Bool.true_and] at hF
        have Hn := Lib.hid hF
        clear hc hF
        go_wp2_with (first
          | (go_at_call 32; ((with_reducible refine (cR _ hB).mono ?_); rintro e w8 ⟨rfl, hb8⟩; have B8 := bel_trans hB hb8; obtain ⟨i0, i1, i2, i3, i4⟩ := (CBox.b HS.out B8).five))
          | (go_at_call 33; ((with_reducible refine (cT _ B8).mono ?_); rintro e w9 ⟨rfl, hb9⟩)))
        go_ret
        exact ⟨congrArg (fun b => Ending.returned (Value.bool b)) Hn.out.symm, bel_trans hB2 (bel_trans B8 hb9)⟩
      · have p1 : (CR == 0) = false := beq_no' hc
        rw [p1, Bool.false_and] at hF
        have Hn := Lib.hid hF
        clear hc hF
        go_wp2_with (go_at_call 32; ((with_reducible refine (cR _ hB).mono ?_); rintro e w8 ⟨rfl, hb8⟩; have B8 := bel_trans hB hb8))
        go_ret
        exact ⟨congrArg (fun b => Ending.returned (Value.bool b)) Hn.out.symm, bel_trans hB2 B8⟩
end Go.Proofs.YtnhemglpbhnmdaaGreat.U
