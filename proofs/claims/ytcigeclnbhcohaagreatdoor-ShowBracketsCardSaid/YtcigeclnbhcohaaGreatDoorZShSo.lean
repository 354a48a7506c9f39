/-
  What is proved: the laws' guards: every name of a term, of a claim, has at most 100 bytes; a claim is small enough, right, and its names short.
-/
import Derived.Test.YtcigeclnbhcohaaGreatDoorZShK
import Derived.Test.YtcigeclnbhcohaaGreatDoorZClmWt
import Derived.Test.YtcigeclnbhcohaaGreatDoorZRgtF
import Derived.Test.YtcigeclnbhcohaaGreatDoorBL
namespace Go.Proofs.YtcigeclnbhcohaaGreatDoor.Sh
open Go.RowKit L T C
set_option linter.unusedVariables false
set_option linter.unusedSimpArgs false
set_option maxRecDepth 100000

def ShortOk (t : Tm) : Prop := ∀ (a : Option Addr) (n c : Nat) (w : World), smZ t → ArW w t a n c →
  Calls Tryz.prog 11 #[.agg #[.int .i64 (opT t), .string (nameT t), .int .i64 (numT t), .slice a n c]] w fun e w' => e = .returned (.bool (shT t)) ∧ Below w.heap.size w w'
set_option maxHeartbeats 4000000 in
theorem short_step (t : Tm) (hok : ∀ x ∈ argsT t, ShortOk x) : ShortOk t := by
  intro a n c w hz hA
  obtain ⟨W2, hW2, hB2, hs2, S2⟩ := box1 w (opT t) (nameT t) (numT t) a n c
  have hT := TsW.b (ArW.args hA) hB2
  have hzs := smZ_args hz
  have hzn := smZ_name hz
  rw [shT_mk]
  generalize hl : argsT t = l at *
  have hst : ∀ k x, l[k]? = some x → shTs (l.drop k) = (shT x && shTs (l.drop (k + 1))) := fun k x h => by rw [drop_t h, shTs]
  have he : ∀ k, n ≤ k → shTs (l.drop k) = true := fun k h => by rw [List.drop_eq_nil_of_le (by rw [← hT.1]; exact h), shTs]
  have hn : n ≤ 9223372036854775807 := by have h1 := hT.2.1; have h2 := hT.2.2.1; unfold maxLen at h2; omega
  have hk2 : ∀ k x, l[k]? = some x → ShortOk x ∧ smZ x := fun k x h => ⟨hok x (List.mem_of_getElem? h), smZs_at hzs h⟩
  have h0 : shTs l = shTs (l.drop 0) := rfl
  rw [h0]
  obtain ⟨F, hF⟩ : ∃ F : Nat → Bool, ∀ k, shTs (l.drop k) = F k := ⟨_, fun _ => rfl⟩
  simp only [hF] at hst he ⊢
  generalize hRR : F 0 = R
  have HR0 := Lib.hid hRR
  have hd : decide (((nameT t).size : Int) ≤ 100) = decide ((nameT t).size ≤ 100) := by rw [decide_eq_decide]; omega
  have hzn2 : (nameT t).size ≤ 9223372036854775807 := by unfold maxLen at hzn; omega
  clear hRR hF h0 hok hzs hzn hz
  obtain ⟨s0, s1, s2, s3⟩ := S2.four
  have H1 := Lib.hid hT
  have Hst := Lib.hid hst
  have He := Lib.hid he
  have HK := Lib.hid hk2
  have HS := Lib.hid S2
  clear hA hT hst he hk2 S2 hl s0 s1 s2
  generalize opT t = op at *
  generalize nameT t = nm at *
  generalize numT t = nu at *
  have HD := Lib.hid hd
  clear hd
  go_enter Tryz.func11, Tryz.ntmps11
  go_wp2
  go_loopw [8] (fun i wr0 => ∃ (wr : World) (k : Nat), wr = wr0 ∧ k ≤ n ∧ i = .int .i64 k ∧ Below W2.heap.size W2 wr ∧ Hid (F k = R)) (fun i _ => n - (intOf i).toNat)
  case atStart => exact ⟨_, 0, rfl, by omega, rfl, Below.refl _ _, HR0⟩
  case round =>
    obtain ⟨wr, k, rfl, hk, rfl, hB, hR⟩ := hrel
    obtain ⟨_, s1r, _, s3r⟩ := (TBox.b HS.out hB).four
    by_cases hlt : k < n
    · obtain ⟨bb, o, x, A, M, Cc, rfl, hb, y0, y1, y2, y3, hx, hok⟩ := (TsW.b H1.out hB).at hlt
      have hs1 := Lib.hid (Hst.out k x hx)
      obtain ⟨W4, hW4, hB4, hs4, S4⟩ := box1 wr (opT x) (nameT x) (numT x) A M Cc
      have cs := (HK.out k x hx).1 A M Cc W4 (HK.out k x hx).2 (ArW.b hok hB4)
      obtain ⟨t0, t1, t2, t3⟩ := S4.four
      clear hx hok H1 Hst HK HS S4 hs4
      generalize opT x = op' at *
      generalize nameT x = nm' at *
      generalize numT x = nu' at *
      have hk0 : 0 ≤ (k : Int) := by omega
      have hk1 : (k : Int) < (n : Int) := by omega
      cases hsx : shT x with
      | true =>
        have hnew : Hid (F (k + 1) = R) := by show _ = _; rw [← hR.out, hs1.out, hsx, Bool.true_and]
        rw [hsx] at cs
        clear hR hs1 hsx
        go_wp2_with (go_at_call 11; ((with_reducible refine cs.mono ?_); rintro e w4 ⟨rfl, hb4⟩))
        go_roundw
        case rel => exact ⟨_, k + 1, rfl, by omega, by go_num, bel_trans (bel_trans hB hB4) hb4, hnew⟩
        case measure => simp [intOf]; omega
      | false =>
        have hnew : Hid (R = false) := by show _ = _; rw [← hR.out, hs1.out, hsx, Bool.false_and]
        rw [hsx] at cs
        clear hR hs1 hsx
        go_wp2_with (go_at_call 11; ((with_reducible refine cs.mono ?_); rintro e w4 ⟨rfl, hb4⟩))
        go_ret
        exact ⟨by rw [hnew.out, Bool.false_and]; rfl, bel_trans hB2 (bel_trans (bel_trans hB hB4) hb4)⟩
    · have hnew : Hid (R = true) := by show _ = _; rw [← hR.out, He.out k (by omega)]
      clear hR
      go_wp2
      go_ret
      exact ⟨by rw [hnew.out, Bool.true_and, HD.out]; rfl, bel_trans hB2 hB⟩
theorem short_any (t : Tm) : ShortOk t := Tm.ind short_step t
theorem smC_mk {t : Cl} (h : smC t) : (nmC t).size ≤ maxLen ∧ (soC t).size ≤ maxLen ∧ smZs (tsC t) ∧ smCs (subC t) := by cases t; rw [smC] at h; exact h
theorem smCs_at : ∀ {l : List Cl} {k : Nat} {t : Cl}, smCs l → l[k]? = some t → smC t
  | [], k, t, _, h => by simp at h
  | u :: l, 0, t, h, e => by rw [smCs] at h; simp at e; rw [← e]; exact h.1
  | u :: l, k + 1, t, h, e => by rw [smCs] at h; exact smCs_at h.2 (by simpa using e)
def NamedOk (t : Cl) : Prop := ∀ (ks : SS) (a : Option Addr) (n c : Nat) (w : World), smC t → ArWC w t ks a n c →
  Calls Tryz.prog 36 #[.agg #[.int .i64 (opC t), .string (nmC t), .string (soC t), .slice ks.a ks.n ks.c, .slice a n c]] w fun e w' => e = .returned (.bool (shC t)) ∧ Below w.heap.size w w'
set_option maxHeartbeats 8000000 in
theorem named_step (t : Cl) (hok : ∀ x ∈ subC t, NamedOk x) : NamedOk t := by
  intro ks a n c w hz hA
  obtain ⟨ka, kn, kc⟩ := ks
  obtain ⟨W2, hW2, hB2, hs2, S2⟩ := cbox1 w (opC t) (nmC t) (soC t) ⟨ka, kn, kc⟩ a n c
  have hT := TsW.b (ArWC.terms hA) hB2
  have hC := CsW.b (ArWC.subs hA) hB2
  dsimp only at hT hW2
  obtain ⟨hzn, hzo, hzt, hzs⟩ := smC_mk hz
  rw [shC_mk]
  have hst : ∀ k x, (tsC t)[k]? = some x → shTs ((tsC t).drop k) = (shT x && shTs ((tsC t).drop (k + 1))) := fun k x h => by rw [drop_t h, shTs]
  have he : ∀ k, kn ≤ k → shTs ((tsC t).drop k) = true := fun k h => by rw [List.drop_eq_nil_of_le (by rw [← hT.1]; exact h), shTs]
  have hst' : ∀ k x, (subC t)[k]? = some x → shCs ((subC t).drop k) = (shC x && shCs ((subC t).drop (k + 1))) := fun k x h => by rw [drop_c h, shCs]
  have he' : ∀ k, n ≤ k → shCs ((subC t).drop k) = true := fun k h => by rw [List.drop_eq_nil_of_le (by rw [← hC.1]; exact h), shCs]
  have hn : n ≤ 9223372036854775807 := by have h1 := hC.2.1; have h2 := hC.2.2.1; unfold maxLen at h2; omega
  have hkn : kn ≤ 9223372036854775807 := by have h1 := hT.2.1; have h2 := hT.2.2.1; unfold maxLen at h2; omega
  have hkt : ∀ k x, (tsC t)[k]? = some x → smZ x := fun k x h => smZs_at hzt h
  have hkc : ∀ k x, (subC t)[k]? = some x → NamedOk x ∧ smC x := fun k x h => ⟨hok x (List.mem_of_getElem? h), smCs_at hzs h⟩
  rw [show shTs (tsC t) = shTs ((tsC t).drop 0) from rfl, show shCs (subC t) = shCs ((subC t).drop 0) from rfl]
  generalize tsC t = lt at *
  generalize subC t = lc at *
  obtain ⟨F, hF⟩ : ∃ F : Nat → Bool, ∀ k, shTs (lt.drop k) = F k := ⟨_, fun _ => rfl⟩
  obtain ⟨G, hG⟩ : ∃ G : Nat → Bool, ∀ k, shCs (lc.drop k) = G k := ⟨_, fun _ => rfl⟩
  simp only [hF] at hst he ⊢
  simp only [hG] at hst' he' ⊢
  generalize hRR : F 0 = R
  have HR0 := Lib.hid hRR
  generalize hGG : G 0 = R'
  have HG0 := Lib.hid hGG
  have hzn2 : (nmC t).size ≤ 9223372036854775807 := by unfold maxLen at hzn; omega
  have hzo2 : (soC t).size ≤ 9223372036854775807 := by unfold maxLen at hzo; omega
  clear hRR hGG hF hG hok hzs hzn hzo hzt hz
  obtain ⟨s0, s1, s2, s3, s4⟩ := S2.five
  have H1 := Lib.hid hT
  have H2 := Lib.hid hC
  have Hst := Lib.hid hst
  have He := Lib.hid he
  have Hst' := Lib.hid hst'
  have He' := Lib.hid he'
  have HT := Lib.hid hkt
  have HK := Lib.hid hkc
  have HS := Lib.hid S2
  clear hA hT hC hst he hst' he' hkt hkc S2 s0 s1 s2 s4
  generalize opC t = op at *
  generalize nmC t = nm at *
  generalize soC t = so at *
  dsimp only at s3
  obtain ⟨Z, hZ⟩ : ∃ Z, (R && (R' && (decide (nm.size ≤ 100) && decide (so.size ≤ 100)))) = Z := ⟨_, rfl⟩
  rw [hZ]
  have HZ := Lib.hid hZ
  clear hZ
  go_enter Tryz.func36, Tryz.ntmps36
  go_wp2
  go_loopw [10] (fun i wr0 => ∃ (wr : World) (k : Nat), wr = wr0 ∧ k ≤ kn ∧ i = .int .i64 k ∧ Below W2.heap.size W2 wr ∧ Hid (F k = R)) (fun i _ => kn - (intOf i).toNat)
  case atStart => exact ⟨_, 0, rfl, by omega, rfl, Below.refl _ _, HR0⟩
  case round =>
    obtain ⟨wr, k, rfl, hk, rfl, hB, hR⟩ := hrel
    obtain ⟨_, _, _, s3r, s4r⟩ := (CBox.b HS.out hB).five
    dsimp only at s3r
    by_cases hlt : k < kn
    · obtain ⟨bb, o, x, A, M, Cc, rfl, hb, y0, y1, y2, y3, hx, hok⟩ := (TsW.b H1.out hB).at hlt
      have hs1 := Lib.hid (Hst.out k x hx)
      obtain ⟨W4, hW4, hB4, hs4, S4⟩ := box1 wr (opT x) (nameT x) (numT x) A M Cc
      have cs := short_any x A M Cc W4 (HT.out k x hx) (ArW.b hok hB4)
      obtain ⟨t0, t1, t2, t3⟩ := S4.four
      clear hx hok H1 H2 Hst Hst' He' HG0 HT HK HS S4 hs4
      generalize opT x = op' at *
      generalize nameT x = nm' at *
      generalize numT x = nu' at *
      have hk0 : 0 ≤ (k : Int) := by omega
      have hk1 : (k : Int) < (kn : Int) := by omega
      cases hsx : shT x with
      | true =>
        have hnew : Hid (F (k + 1) = R) := by show _ = _; rw [← hR.out, hs1.out, hsx, Bool.true_and]
        rw [hsx] at cs
        clear hR hs1 hsx
        go_wp2_with (go_at_call 11; ((with_reducible refine cs.mono ?_); rintro e w4 ⟨rfl, hb4⟩))
        go_roundw
        case rel => exact ⟨_, k + 1, rfl, by omega, by go_num, bel_trans (bel_trans hB hB4) hb4, hnew⟩
        case measure => simp [intOf]; omega
      | false =>
        have hnew : Hid (R = false) := by show _ = _; rw [← hR.out, hs1.out, hsx, Bool.false_and]
        rw [hsx] at cs
        clear hR hs1 hsx
        go_wp2_with (go_at_call 11; ((with_reducible refine cs.mono ?_); rintro e w4 ⟨rfl, hb4⟩))
        go_ret
        exact ⟨oneB (show false = Z by rw [← HZ.out, hnew.out, Bool.false_and]), bel_trans hB2 (bel_trans (bel_trans hB hB4) hb4)⟩
    · have hR1 : Hid (R = true) := by show _ = _; rw [← hR.out, He.out k (by omega)]
      clear hR H1 HT Hst He HR0
      go_wp2
      go_loopw [21] (fun i wr0 => ∃ (wq : World) (k : Nat), wq = wr0 ∧ k ≤ n ∧ i = .int .i64 k ∧ Below W2.heap.size W2 wq ∧ Hid (G k = R')) (fun i _ => n - (intOf i).toNat)
      case atStart => exact ⟨_, 0, rfl, by omega, rfl, hB, HG0⟩
      case round =>
        obtain ⟨wq, j, rfl, hj, rfl, hQ, hR⟩ := hrel
        obtain ⟨_, s1q, s2q, _, s4q⟩ := (CBox.b HS.out hQ).five
        by_cases hlt : j < n
        · obtain ⟨bb, o, x, k, A, M, Cc, rfl, hb, y0, y1, y2, y3, y4, hx, hok⟩ := (CsW.b H2.out hQ).at hlt
          have hs1 := Lib.hid (Hst'.out j x hx)
          obtain ⟨W4, hW4, hB4, hs4, S4⟩ := cbox1 wq (opC x) (nmC x) (soC x) k A M Cc
          have cs := (HK.out j x hx).1 k A M Cc W4 (HK.out j x hx).2 (ArWC.b hok hB4)
          obtain ⟨t0, t1, t2, t3, t4⟩ := S4.five
          clear hx hok H2 Hst' HK HS S4 hs4
          generalize opC x = op' at *
          generalize nmC x = nm' at *
          generalize soC x = so' at *
          have hk0 : 0 ≤ (j : Int) := by omega
          have hk1 : (j : Int) < (n : Int) := by omega
          cases hsx : shC x with
          | true =>
            have hnew : Hid (G (j + 1) = R') := by show _ = _; rw [← hR.out, hs1.out, hsx, Bool.true_and]
            rw [hsx] at cs
            clear hR hs1 hsx
            go_wp2_with (go_at_call 36; ((with_reducible refine cs.mono ?_); rintro e w4 ⟨rfl, hb4⟩))
            go_roundw
            case rel => exact ⟨_, j + 1, rfl, by omega, by go_num, bel_trans (bel_trans hQ hB4) hb4, hnew⟩
            case measure => simp [intOf]; omega
          | false =>
            have hnew : Hid (R' = false) := by show _ = _; rw [← hR.out, hs1.out, hsx, Bool.false_and]
            rw [hsx] at cs
            clear hR hs1 hsx
            go_wp2_with (go_at_call 36; ((with_reducible refine cs.mono ?_); rintro e w4 ⟨rfl, hb4⟩))
            go_ret
            exact ⟨oneB (show false = Z by rw [← HZ.out, hnew.out, Bool.false_and, Bool.and_false]), bel_trans hB2 (bel_trans (bel_trans hQ hB4) hb4)⟩
        · have hnew : Hid (R' = true) := by show _ = _; rw [← hR.out, He'.out j (by omega)]
          clear hR H2 Hst' He' HK HS HG0
          by_cases hd : nm.size ≤ 100
          · have hd' : decide ((nm.size : Int) ≤ 100) = true := decide_eq_true (by omega)
            have hRes : Hid (decide ((so.size : Int) ≤ 100) = Z) := Lib.hid (by rw [← HZ.out, hR1.out, hnew.out, decide_eq_true hd, Bool.true_and, Bool.true_and, Bool.true_and, decide_eq_decide]; omega)
            go_wp2
            go_ret
            exact ⟨oneB hRes.out, bel_trans hB2 hQ⟩
          · have hd' : decide ((nm.size : Int) ≤ 100) = false := decide_eq_false (by omega)
            have hRes : Hid (false = Z) := Lib.hid (by rw [← HZ.out, decide_eq_false hd, Bool.false_and, Bool.and_false, Bool.and_false])
            go_wp2
            go_ret
            exact ⟨oneB hRes.out, bel_trans hB2 hQ⟩
theorem named_any (t : Cl) : NamedOk t := Cl.ind named_step t
/-- small enough, right, with short names -/
def plC (t : Cl) (most : Nat) : Bool := !decide (most < wtTo most t) && (crightE t == 0 && shC t)
set_option maxHeartbeats 4000000 in
theorem Plain_any (t : Cl) (hz : smC t) (ks : SS) (a : Option Addr) (n c most : Nat) (hm : most ≤ 1000000) (w : World) (hA : ArWC w t ks a n c) :
    Calls Tryz.prog 15 #[.agg #[.int .i64 (opC t), .string (nmC t), .string (soC t), .slice ks.a ks.n ks.c, .slice a n c], .int .i64 most] w fun e w' => e = .returned (.bool (plC t most)) ∧ Below w.heap.size w w' := by
  obtain ⟨ka, kn, kc⟩ := ks
  obtain ⟨W2, hW2, hB2, hs2, S2⟩ := cbox1 w (opC t) (nmC t) (soC t) ⟨ka, kn, kc⟩ a n c
  have cB := Big_any t ⟨ka, kn, kc⟩ a n c most W2 (by omega) (ArWC.b hA hB2)
  have cR := fun (w' : World) (h : Below W2.heap.size W2 w') => Right8C_any t ⟨ka, kn, kc⟩ a n c w' (ArWC.b (ArWC.b hA hB2) h)
  have cN := fun (w' : World) (h : Below W2.heap.size W2 w') => named_any t ⟨ka, kn, kc⟩ a n c w' hz (ArWC.b (ArWC.b hA hB2) h)
  have HS := Lib.hid S2
  obtain ⟨s0, s1, s2, s3, s4⟩ := S2.five
  unfold plC
  clear S2 hA hz
  generalize decide (most < wtTo most t) = B at *
  generalize crightE t = E at *
  generalize shC t = N at *
  generalize opC t = op at *
  generalize nmC t = nm at *
  generalize soC t = so at *
  dsimp only at *
  have HR := Lib.hid cR
  have HN := Lib.hid cN
  clear cR cN
  cases B with
  | true =>
    go_enter Tryz.func15, Tryz.ntmps15
    go_wp2_with (go_at_call 35; ((with_reducible refine cB.mono ?_); rintro e w3 ⟨rfl, hb3⟩))
    go_ret
    exact ⟨rfl, bel_trans hB2 hb3⟩
  | false =>
    by_cases hE : E = 0
    · subst hE
      go_enter Tryz.func15, Tryz.ntmps15
      go_wp2_with (first
        | (go_at_call 35; ((with_reducible refine cB.mono ?_); rintro e w3 ⟨rfl, hb3⟩; obtain ⟨q0, q1, q2, q3, q4⟩ := (CBox.b HS.out hb3).five; dsimp only at q3; have cr := HR.out w3 hb3))
        | (go_at_call 28; ((with_reducible refine cr.mono ?_); rintro e w4 ⟨rfl, hb4⟩; have hb34 := bel_trans hb3 hb4; obtain ⟨q0, q1, q2, q3, q4⟩ := (CBox.b HS.out hb34).five; dsimp only at q3; have cn := HN.out w4 hb34))
        | (go_at_call 36; ((with_reducible refine cn.mono ?_); rintro e w5 ⟨rfl, hb5⟩)))
      go_ret
      exact ⟨rfl, bel_trans hB2 (bel_trans hb34 hb5)⟩
    · have hE' : (E == 0) = false := beq_no' hE
      have hZ : Hid (false = (!false && (E == 0 && N))) := by show _ = _; rw [hE']; rfl
      go_enter Tryz.func15, Tryz.ntmps15
      go_wp2_with (first
        | (go_at_call 35; ((with_reducible refine cB.mono ?_); rintro e w3 ⟨rfl, hb3⟩; obtain ⟨q0, q1, q2, q3, q4⟩ := (CBox.b HS.out hb3).five; dsimp only at q3; have cr := HR.out w3 hb3))
        | (go_at_call 28; ((with_reducible refine cr.mono ?_); rintro e w4 ⟨rfl, hb4⟩; have hb34 := bel_trans hb3 hb4)))
      go_ret
      exact ⟨oneB hZ.out, bel_trans hB2 hb34⟩
end Go.Proofs.YtcigeclnbhcohaaGreatDoor.Sh
