/-
  What is proved: the document's counts of the parts of terms and claims, which stop behind a bound (package of layer 8).
  the document's depths of terms and claims, counted up to a bound (package of layer 8).
  What is proved: deep8_step (taken out of RgtB, for seats without that function).
  What is proved: deep8_any (taken out of RgtB, for seats without that function).
  What is proved: how great a claim is, as the document weighs it (taken out of RgtB, for seats without that function).
-/
import Derived.Test.YtcigeclnbhcohaaGreatDoorBR
import Derived.Test.YtcigeclnbhcohaaGreatDoorBC
import Derived.Test.YtcigeclnbhcohaaGreatDoorBL
import Derived.Test.YtcigeclnbhcohaaGreatDoorZClmWt
namespace Go.Proofs.YtcigeclnbhcohaaGreatDoor.C
open Go.RowKit L T
set_option linter.unusedVariables false
set_option linter.unusedSimpArgs false

/-- the count, at this term -/
def Size8Ok (t : Tm) : Prop := ∀ (a : Option Addr) (n c most : Nat) (w : World), most ≤ 1000000000 → ArW w t a n c →
  Calls Tryz.prog 30 #[.agg #[.int .i64 (opT t), .string (nameT t), .int .i64 (numT t), .slice a n c], .int .i64 most] w fun e w' => e = .returned (.int .i64 (szTo most t)) ∧ Below w.heap.size w w'

set_option maxRecDepth 100000 in
set_option maxHeartbeats 4000000 in
theorem size8_step (t : Tm) (hok : ∀ x ∈ argsT t, Size8Ok x) : Size8Ok t := by
  intro a n c most w hm hA
  obtain ⟨W2, hW2, hB2, hs2, S2⟩ := box1 w (opT t) (nameT t) (numT t) a n c
  have hT := TsW.b (ArW.args hA) hB2
  rw [szTo_args]
  generalize hl : argsT t = l at *
  have hst : ∀ k x q, l[k]? = some x → q ≤ most → szTos most q (l.drop k) = szTos most (q + szTo (most - q) x) (l.drop (k + 1)) := fun k x q h h2 => by rw [drop_t h, szTos, if_pos h2]
  have he : ∀ k q, n ≤ k → szTos most q (l.drop k) = q := fun k q h => by rw [List.drop_eq_nil_of_le (by rw [← hT.1]; exact h), szTos]
  have he2 : ∀ k q, most < q → szTos most q (l.drop k) = q := fun k q h => by
    cases hd : l.drop k with
    | nil => rw [szTos]
    | cons x r => rw [szTos, if_neg (by omega)]
  have hn : n ≤ 9223372036854775807 := by have h1 := hT.2.1; have h2 := hT.2.2.1; unfold maxLen at h2; omega
  have hk2 : ∀ k x, l[k]? = some x → Size8Ok x := fun k x h => hok x (List.mem_of_getElem? h)
  have h0 : szTos most 1 l = szTos most 1 (l.drop 0) := rfl
  rw [h0]
  obtain ⟨F, hF⟩ : ∃ F : Nat → Nat → Nat, ∀ k q, szTos most q (l.drop k) = F k q := ⟨_, fun _ _ => rfl⟩
  simp only [hF] at hst he he2 ⊢
  generalize hRR : F 0 1 = R
  have HR0 := Lib.hid hRR
  clear hRR
  clear hF h0 hok
  obtain ⟨s0, s1, s2, s3⟩ := S2.four
  have H1 := Lib.hid hT
  have Hst := Lib.hid hst
  have He := Lib.hid he
  have He2 := Lib.hid he2
  have HK := Lib.hid hk2
  have HS := Lib.hid S2
  clear hA hT hst he he2 hk2 S2 hl s0 s1 s2
  generalize opT t = op at *
  generalize nameT t = nm at *
  generalize numT t = nu at *
  go_enter Tryz.func30, Tryz.ntmps30
  go_wp2
  go_loopw [5, 6] (fun q i wr0 => ∃ (wr : World) (k nk : Nat), wr = wr0 ∧ k ≤ n ∧ nk ≤ most + 1 ∧ q = .int .i64 nk ∧ i = .int .i64 k ∧ Below W2.heap.size W2 wr ∧ Hid (F k nk = R)) (fun q i _ => n - (intOf i).toNat)
  case atStart => exact ⟨_, 0, 1, rfl, by omega, by omega, rfl, rfl, Below.refl _ _, HR0⟩
  case round =>
    obtain ⟨wr, k, nk, rfl, hk, hnk, rfl, rfl, hB, hR⟩ := hrel
    obtain ⟨_, _, _, s3r⟩ := (TBox.b HS.out hB).four
    by_cases hlt : k < n
    · by_cases hq : nk ≤ most
      · obtain ⟨bb, o, x, A, M, Cc, rfl, hb, y0, y1, y2, y3, hx, hok⟩ := (TsW.b H1.out hB).at hlt
        have hs1 := Lib.hid (Hst.out k x nk hx hq)
        have cs := HK.out k x hx A M Cc (most - nk) wr (by omega) hok
        have hmx := szTo_max x (most - nk)
        have em : ((most - nk : Nat) : Int) = (most : Int) - (nk : Int) := by omega
        rw [em] at cs
        clear hx hok H1 Hst HK HS em
        generalize szTo (most - nk) x = sz at *
        generalize opT x = op' at *
        generalize nameT x = nm' at *
        generalize numT x = nu' at *
        have hnew : Hid (F (k + 1) (nk + sz) = R) := by show _ = _; rw [← hR.out, hs1.out]
        clear hR hs1
        have hk0 : 0 ≤ (k : Int) := by omega
        have hk1 : (k : Int) < (n : Int) := by omega
        go_wp2_with (go_at_call 30; ((with_reducible refine cs.mono ?_); rintro e w4 ⟨rfl, hb4⟩))
        go_roundw
        case rel => exact ⟨_, k + 1, nk + sz, rfl, by omega, by omega, by go_num, by go_num, bel_trans hB hb4, hnew⟩
        case measure => simp [intOf]; omega
      · have hnew : Hid (nk = R) := by show _ = _; rw [← hR.out, He2.out k nk (by omega)]
        clear hR
        go_wp2
        go_ret
        exact ⟨one (by rw [← hnew.out]), bel_trans hB2 hB⟩
    · have hnew : Hid (nk = R) := by show _ = _; rw [← hR.out, He.out k nk (by omega)]
      clear hR
      go_wp2
      go_ret
      exact ⟨one (by rw [← hnew.out]), bel_trans hB2 hB⟩
theorem size8_any (t : Tm) : Size8Ok t := Tm.ind size8_step t
end Go.Proofs.YtcigeclnbhcohaaGreatDoor.C
namespace Go.Proofs.YtcigeclnbhcohaaGreatDoor.C
open Go.RowKit L T
set_option linter.unusedVariables false
set_option linter.unusedSimpArgs false

def TallOk (t : Tm) : Prop := ∀ (a : Option Addr) (n c most : Nat) (w : World), 1 ≤ most → most ≤ 1000000000 → ArW w t a n c →
  Calls Tryz.prog 29 #[.agg #[.int .i64 (opT t), .string (nameT t), .int .i64 (numT t), .slice a n c], .int .i64 most] w fun e w' => e = .returned (.int .i64 ((min (depth t) most : Nat) : Int)) ∧ Below w.heap.size w w'
set_option maxRecDepth 100000 in
set_option maxHeartbeats 4000000 in
theorem tall8_step (t : Tm) (hok : ∀ x ∈ argsT t, TallOk x) : TallOk t := by
  intro a n c most w h1 hm hA
  obtain ⟨W2, hW2, hB2, hs2, S2⟩ := box1 w (opT t) (nameT t) (numT t) a n c
  have hT := TsW.b (ArW.args hA) hB2
  rw [depth_argsR]
  have hk2 : ∀ k x, (argsT t)[k]? = some x → TallOk x := fun k x h => hok x (List.mem_of_getElem? h)
  have hn : n ≤ 9223372036854775807 := by have h1 := hT.2.1; have h2 := hT.2.2.1; unfold maxLen at h2; omega
  have htk : ∀ k x, (argsT t)[k]? = some x → depths ((argsT t).take (k + 1)) = max (depths ((argsT t).take k)) (depth x) := fun k x h => depths_takeR h
  have hend : ∀ k, n ≤ k → depths ((argsT t).take k) = depths (argsT t) := fun k h => by rw [List.take_of_length_le (by rw [← hT.1]; exact h)]
  have h0 : depths ((argsT t).take 0) = 0 := rfl
  generalize argsT t = la at *
  obtain ⟨F, hF⟩ : ∃ F : Nat → Nat, ∀ k, depths (la.take k) = F k := ⟨_, fun _ => rfl⟩
  simp only [hF] at htk hend h0
  generalize depths la = R at *
  obtain ⟨s0, s1, s2, s3⟩ := S2.four
  have H1 := Lib.hid hT
  have Htk := Lib.hid htk
  have Hend := Lib.hid hend
  have HK := Lib.hid hk2
  have HS := Lib.hid S2
  have H0 := Lib.hid h0
  clear hA hT htk hend hk2 hok hF S2 h0
  generalize opT t = op at *
  generalize nameT t = nm at *
  generalize numT t = nu at *
  by_cases hm1 : most ≤ 1
  · obtain rfl : most = 1 := by omega
    have hd : Hid ((1 : Int) = ((min (1 + R) 1 : Nat) : Int)) := Lib.hid (by omega)
    have q1 : decide ((1 : Int) ≤ 1) = true := by decide
    go_enter Tryz.func29, Tryz.ntmps29
    go_wp2
    go_ret
    first | exact ⟨one hd.out, hB2⟩ | exact ⟨rfl, hB2⟩ | exact ⟨by simp, hB2⟩
  · have q1 : decide ((most : Int) ≤ 1) = false := decide_eq_false (by omega)
    have HR0 : Hid (0 = min (F 0) (most - 1)) := Lib.hid (by rw [H0.out]; omega)
    go_enter Tryz.func29, Tryz.ntmps29
    go_wp2
    go_loopw [5, 6] (fun q i wr0 => ∃ (wr : World) (k h : Nat), wr = wr0 ∧ k ≤ n ∧ q = .int .i64 h ∧ i = .int .i64 k ∧ Below W2.heap.size W2 wr ∧ h ≤ most ∧ Hid (h = min (F k) (most - 1))) (fun q i _ => n - (intOf i).toNat)
    case atStart => exact ⟨_, 0, 0, rfl, by omega, rfl, rfl, Below.refl _ _, by omega, HR0⟩
    case round =>
      obtain ⟨wr, k, h, rfl, hk, rfl, rfl, hB, hhm, hR⟩ := hrel
      obtain ⟨_, _, _, s3r⟩ := (TBox.b HS.out hB).four
      by_cases hlt : k < n
      · obtain ⟨bb, o, x, A, M, Cc, rfl, hb, y0, y1, y2, y3, hx, hok⟩ := (TsW.b H1.out hB).at hlt
        have cs := HK.out k x hx A M Cc (most - 1) wr (by omega) (by omega) hok
        have em : ((most - 1 : Nat) : Int) = (most : Int) - 1 := by omega
        rw [em] at cs
        have hst : Hid (max h (min (depth x) (most - 1)) = min (F (k + 1)) (most - 1)) := Lib.hid (by rw [Htk.out k x hx, hR.out]; omega)
        clear hx hok H1 Htk HK HS em hR
        generalize hdx : min (depth x) (most - 1) = dx at *
        have hdm : dx ≤ most := by omega
        clear hdx
        generalize opT x = op' at *
        generalize nameT x = nm' at *
        generalize numT x = nu' at *
        have hk0 : 0 ≤ (k : Int) := by omega
        have hk1 : (k : Int) < (n : Int) := by omega
        by_cases hgt : h < dx
        · have q2 : decide ((dx : Int) > (h : Int)) = true := decide_eq_true (by omega)
          have hnew : Hid (dx = min (F (k + 1)) (most - 1)) := Lib.hid (by rw [← hst.out]; omega)
          go_wp2_with (go_at_call 29; ((with_reducible refine cs.mono ?_); rintro e w4 ⟨rfl, hb4⟩))
          go_roundw
          case rel => exact ⟨_, k + 1, dx, rfl, by omega, rfl, by go_num, bel_trans hB hb4, by omega, hnew⟩
          case measure => simp [intOf]; omega
        · have q2 : decide ((dx : Int) > (h : Int)) = false := decide_eq_false (by omega)
          have hnew : Hid (h = min (F (k + 1)) (most - 1)) := Lib.hid (by rw [← hst.out]; omega)
          go_wp2_with (go_at_call 29; ((with_reducible refine cs.mono ?_); rintro e w4 ⟨rfl, hb4⟩))
          go_roundw
          case rel => exact ⟨_, k + 1, h, rfl, by omega, rfl, by go_num, bel_trans hB hb4, by omega, hnew⟩
          case measure => simp [intOf]; omega
      · have hnew : Hid (((h : Int) + 1) = ((min (1 + R) most : Nat) : Int)) := Lib.hid (by have h1 := hR.out; rw [Hend.out k (by omega)] at h1; omega)
        clear hR
        go_wp2
        go_ret
        exact ⟨one (by rw [← hnew.out]), bel_trans hB2 hB⟩
theorem tall8_any (t : Tm) : TallOk t := Tm.ind tall8_step t
end Go.Proofs.YtcigeclnbhcohaaGreatDoor.C
namespace Go.Proofs.YtcigeclnbhcohaaGreatDoor.C
open Go.RowKit L T
set_option linter.unusedVariables false
set_option linter.unusedSimpArgs false

def DeepOk (t : Cl) : Prop := ∀ (k : SS) (a : Option Addr) (n c most : Nat) (w : World), 1 ≤ most → most ≤ 1000000000 → ArWC w t k a n c →
  Calls Tryz.prog 84 #[.agg #[.int .i64 (opC t), .string (nmC t), .string (soC t), .slice k.a k.n k.c, .slice a n c], .int .i64 most] w fun e w' => e = .returned (.int .i64 ((min (dpC t) most : Nat) : Int)) ∧ Below w.heap.size w w'
set_option maxRecDepth 100000 in
set_option maxHeartbeats 4000000 in
theorem deep8_step (t : Cl) (hok : ∀ x ∈ subC t, DeepOk x) : DeepOk t := by
  intro kk a n c most w h1 hm hA
  obtain ⟨ka, kn, kc⟩ := kk
  obtain ⟨W2, hW2, hB2, hs2, S2⟩ := cbox1 w (opC t) (nmC t) (soC t) ⟨ka, kn, kc⟩ a n c
  dsimp only at hW2
  have hT := CsW.b (ArWC.subs hA) hB2
  rw [dpC_mk]
  have hk2 : ∀ k x, (subC t)[k]? = some x → DeepOk x := fun k x h => hok x (List.mem_of_getElem? h)
  have hn : n ≤ 9223372036854775807 := by have h1 := hT.2.1; have h2 := hT.2.2.1; unfold maxLen at h2; omega
  have htk : ∀ k x, (subC t)[k]? = some x → dpCs ((subC t).take (k + 1)) = max (dpCs ((subC t).take k)) (dpC x) := fun k x h => dpCs_take h
  have hend : ∀ k, n ≤ k → dpCs ((subC t).take k) = dpCs (subC t) := fun k h => by rw [List.take_of_length_le (by rw [← hT.1]; exact h)]
  have h0 : dpCs ((subC t).take 0) = 0 := rfl
  generalize subC t = la at *
  obtain ⟨F, hF⟩ : ∃ F : Nat → Nat, ∀ k, dpCs (la.take k) = F k := ⟨_, fun _ => rfl⟩
  simp only [hF] at htk hend h0
  generalize dpCs la = R at *
  obtain ⟨s0, s1, s2, s3, s4⟩ := S2.five
  have H1 := Lib.hid hT
  have Htk := Lib.hid htk
  have Hend := Lib.hid hend
  have HK := Lib.hid hk2
  have HS := Lib.hid S2
  have H0 := Lib.hid h0
  clear hA hT htk hend hk2 hok hF S2 h0
  generalize opC t = op at *
  generalize nmC t = nm at *
  generalize soC t = nu at *
  by_cases hm1 : most ≤ 1
  · obtain rfl : most = 1 := by omega
    have hd : Hid ((1 : Int) = ((min (1 + R) 1 : Nat) : Int)) := Lib.hid (by omega)
    have q1 : decide ((1 : Int) ≤ 1) = true := by decide
    go_enter Tryz.func84, Tryz.ntmps84
    go_wp2
    go_ret
    first | exact ⟨one hd.out, hB2⟩ | exact ⟨rfl, hB2⟩ | exact ⟨by simp, hB2⟩
  · have q1 : decide ((most : Int) ≤ 1) = false := decide_eq_false (by omega)
    have HR0 : Hid (0 = min (F 0) (most - 1)) := Lib.hid (by rw [H0.out]; omega)
    go_enter Tryz.func84, Tryz.ntmps84
    go_wp2
    go_loopw [5, 6] (fun q i wr0 => ∃ (wr : World) (k h : Nat), wr = wr0 ∧ k ≤ n ∧ q = .int .i64 h ∧ i = .int .i64 k ∧ Below W2.heap.size W2 wr ∧ h ≤ most ∧ Hid (h = min (F k) (most - 1))) (fun q i _ => n - (intOf i).toNat)
    case atStart => exact ⟨_, 0, 0, rfl, by omega, rfl, rfl, Below.refl _ _, by omega, HR0⟩
    case round =>
      obtain ⟨wr, k, h, rfl, hk, rfl, rfl, hB, hhm, hR⟩ := hrel
      obtain ⟨_, _, _, _, s3r⟩ := (CBox.b HS.out hB).five
      by_cases hlt : k < n
      · obtain ⟨bb, o, x, xk, A, M, Cc, rfl, hb, y0, y1, y2, y3, y4, hx, hok⟩ := (CsW.b H1.out hB).at hlt
        have cs := HK.out k x hx xk A M Cc (most - 1) wr (by omega) (by omega) hok
        have em : ((most - 1 : Nat) : Int) = (most : Int) - 1 := by omega
        rw [em] at cs
        have hst : Hid (max h (min (dpC x) (most - 1)) = min (F (k + 1)) (most - 1)) := Lib.hid (by rw [Htk.out k x hx, hR.out]; omega)
        clear hx hok H1 Htk HK HS em hR
        generalize hdx : min (dpC x) (most - 1) = dx at *
        have hdm : dx ≤ most := by omega
        clear hdx
        generalize opC x = op' at *
        generalize nmC x = nm' at *
        generalize soC x = nu' at *
        have hk0 : 0 ≤ (k : Int) := by omega
        have hk1 : (k : Int) < (n : Int) := by omega
        by_cases hgt : h < dx
        · have q2 : decide ((dx : Int) > (h : Int)) = true := decide_eq_true (by omega)
          have hnew : Hid (dx = min (F (k + 1)) (most - 1)) := Lib.hid (by rw [← hst.out]; omega)
          go_wp2_with (go_at_call 84; ((with_reducible refine cs.mono ?_); rintro e w4 ⟨rfl, hb4⟩))
          go_roundw
          case rel => exact ⟨_, k + 1, dx, rfl, by omega, rfl, by go_num, bel_trans hB hb4, by omega, hnew⟩
          case measure => simp [intOf]; omega
        · have q2 : decide ((dx : Int) > (h : Int)) = false := decide_eq_false (by omega)
          have hnew : Hid (h = min (F (k + 1)) (most - 1)) := Lib.hid (by rw [← hst.out]; omega)
          go_wp2_with (go_at_call 84; ((with_reducible refine cs.mono ?_); rintro e w4 ⟨rfl, hb4⟩))
          go_roundw
          case rel => exact ⟨_, k + 1, h, rfl, by omega, rfl, by go_num, bel_trans hB hb4, by omega, hnew⟩
          case measure => simp [intOf]; omega
      · have hnew : Hid (((h : Int) + 1) = ((min (1 + R) most : Nat) : Int)) := Lib.hid (by have h1 := hR.out; rw [Hend.out k (by omega)] at h1; omega)
        clear hR
        go_wp2
        go_ret
        exact ⟨one (by rw [← hnew.out]), bel_trans hB2 hB⟩
end Go.Proofs.YtcigeclnbhcohaaGreatDoor.C
namespace Go.Proofs.YtcigeclnbhcohaaGreatDoor.C
open Go.RowKit L T
set_option linter.unusedVariables false
set_option linter.unusedSimpArgs false

theorem deep8_any (t : Cl) : DeepOk t := Cl.ind deep8_step t
end Go.Proofs.YtcigeclnbhcohaaGreatDoor.C
namespace Go.Proofs.YtcigeclnbhcohaaGreatDoor.C
open Go.RowKit L T
set_option linter.unusedVariables false
set_option linter.unusedSimpArgs false

def WeOk (t : Cl) : Prop := ∀ (k : SS) (a : Option Addr) (n c most : Nat) (w : World), most ≤ 1000000000 → ArWC w t k a n c →
  Calls Tryz.prog 85 #[.agg #[.int .i64 (opC t), .string (nmC t), .string (soC t), .slice k.a k.n k.c, .slice a n c], .int .i64 most] w fun e w' => e = .returned (.int .i64 (wtTo most t)) ∧ Below w.heap.size w w'
set_option maxRecDepth 100000 in
set_option maxHeartbeats 8000000 in
theorem weigh_step (t : Cl) (hok : ∀ x ∈ subC t, WeOk x) : WeOk t := by
  intro kk a n c most w hm hA
  obtain ⟨ka, kn, kc⟩ := kk
  obtain ⟨W2, hW2, hB2, hs2, S2⟩ := cbox1 w (opC t) (nmC t) (soC t) ⟨ka, kn, kc⟩ a n c
  have hT := TsW.b (ArWC.terms hA) hB2
  have hC := CsW.b (ArWC.subs hA) hB2
  dsimp only at hT hW2
  rw [wtTo_mk]
  generalize hlt : tsC t = lt at *
  generalize hlc : subC t = lc at *
  have hst : ∀ k x q, lt[k]? = some x → q ≤ most → szTos most q (lt.drop k) = szTos most (q + szTo (most - q) x) (lt.drop (k + 1)) := fun k x q h h2 => by rw [drop_t h, szTos, if_pos h2]
  have he : ∀ k q, kn ≤ k → szTos most q (lt.drop k) = q := fun k q h => by rw [List.drop_eq_nil_of_le (by rw [← hT.1]; exact h), szTos]
  have he2 : ∀ k q, most < q → szTos most q (lt.drop k) = q := fun k q h => by
    cases hd : lt.drop k with
    | nil => rw [szTos]
    | cons x r => rw [szTos, if_neg (by omega)]
  have hst' : ∀ k x q, lc[k]? = some x → q ≤ most → wtTos most q (lc.drop k) = wtTos most (q + wtTo (most - q) x) (lc.drop (k + 1)) := fun k x q h h2 => by rw [drop_c h, wtTos, if_pos h2]
  have he' : ∀ k q, n ≤ k → wtTos most q (lc.drop k) = q := fun k q h => by rw [List.drop_eq_nil_of_le (by rw [← hC.1]; exact h), wtTos]
  have he2' : ∀ k q, most < q → wtTos most q (lc.drop k) = q := fun k q h => by
    cases hd : lc.drop k with
    | nil => rw [wtTos]
    | cons x r => rw [wtTos, if_neg (by omega)]
  have hn : n ≤ 9223372036854775807 := by have h1 := hC.2.1; have h2 := hC.2.2.1; unfold maxLen at h2; omega
  have hkn : kn ≤ 9223372036854775807 := by have h1 := hT.2.1; have h2 := hT.2.2.1; unfold maxLen at h2; omega
  have hk2 : ∀ k x, lc[k]? = some x → WeOk x := fun k x h => hok x (List.mem_of_getElem? h)
  have hR1 : szTos most 1 lt ≤ most + 1 := by have := szTos_top lt most 1; omega
  have h0 : szTos most 1 lt = szTos most 1 (lt.drop 0) := rfl
  have h0' : ∀ q, wtTos most q lc = wtTos most q (lc.drop 0) := fun q => rfl
  rw [h0']
  generalize hR1e : szTos most 1 lt = R1 at *
  obtain ⟨F, hF⟩ : ∃ F : Nat → Nat → Nat, ∀ k q, szTos most q (lt.drop k) = F k q := ⟨_, fun _ _ => rfl⟩
  obtain ⟨G, hG⟩ : ∃ G : Nat → Nat → Nat, ∀ k q, wtTos most q (lc.drop k) = G k q := ⟨_, fun _ _ => rfl⟩
  simp only [hF] at hst he he2 h0
  simp only [hG] at hst' he' he2' ⊢
  generalize hRR : G 0 R1 = R
  have HR0 := Lib.hid hRR
  have HF0 := Lib.hid h0.symm
  clear hRR hF hG h0 h0' hok hR1e
  obtain ⟨s0, s1, s2, s3, s4⟩ := S2.five
  have H1 := Lib.hid hT
  have H2 := Lib.hid hC
  have Hst := Lib.hid hst
  have He := Lib.hid he
  have He2 := Lib.hid he2
  have Hst' := Lib.hid hst'
  have He' := Lib.hid he'
  have He2' := Lib.hid he2'
  have HK := Lib.hid hk2
  have HS := Lib.hid S2
  have HR1 := Lib.hid hR1
  clear hA hT hC hst he he2 hst' he' he2' hk2 S2 hlt hlc s0 s1 s2 hR1
  generalize opC t = op at *
  generalize nmC t = nm at *
  generalize soC t = nu at *
  go_enter Tryz.func85, Tryz.ntmps85
  go_wp2
  go_loopw [5, 6] (fun q i wr0 => ∃ (wr : World) (k nk : Nat), wr = wr0 ∧ k ≤ kn ∧ nk ≤ most + 1 ∧ q = .int .i64 nk ∧ i = .int .i64 k ∧ Below W2.heap.size W2 wr ∧ Hid (F k nk = R1)) (fun q i _ => kn - (intOf i).toNat)
  case atStart => exact ⟨_, 0, 1, rfl, by omega, by omega, rfl, rfl, Below.refl _ _, HF0⟩
  case round =>
    obtain ⟨wr, k, nk, rfl, hk, hnk, rfl, rfl, hB, hR⟩ := hrel
    obtain ⟨_, _, _, s3r, s4r⟩ := (CBox.b HS.out hB).five
    by_cases hlt : k < kn
    · by_cases hq : nk ≤ most
      · obtain ⟨bb, o, x, A, M, Cc, rfl, hb, y0, y1, y2, y3, hx, hok⟩ := (TsW.b H1.out hB).at hlt
        have hs1 := Lib.hid (Hst.out k x nk hx hq)
        have cs := size8_any x A M Cc (most - nk) wr (by omega) hok
        have hmx := szTo_max x (most - nk)
        have em : ((most - nk : Nat) : Int) = (most : Int) - (nk : Int) := by omega
        rw [em] at cs
        clear hx hok H1 Hst HK HS em
        generalize szTo (most - nk) x = sz at *
        generalize opT x = op' at *
        generalize nameT x = nm' at *
        generalize numT x = nu' at *
        have hnew : Hid (F (k + 1) (nk + sz) = R1) := by show _ = _; rw [← hR.out, hs1.out]
        clear hR hs1
        have hk0 : 0 ≤ (k : Int) := by omega
        have hk1 : (k : Int) < (kn : Int) := by omega
        go_wp2_with (go_at_call 30; ((with_reducible refine cs.mono ?_); rintro e w4 ⟨rfl, hb4⟩))
        go_roundw
        case rel => exact ⟨_, k + 1, nk + sz, rfl, by omega, by omega, by go_num, by go_num, bel_trans hB hb4, hnew⟩
        case measure => simp [intOf]; omega
      · obtain rfl : nk = R1 := by rw [← hR.out, He2.out k nk (by omega)]
        clear hR HF0
        go_wp2
        go_loopw [5, 7] (fun q i wr0 => ∃ (wr' : World) (k nk' : Nat), wr' = wr0 ∧ k ≤ n ∧ nk' ≤ most + 1 ∧ q = .int .i64 nk' ∧ i = .int .i64 k ∧ Below W2.heap.size W2 wr' ∧ Hid (G k nk' = R)) (fun q i _ => n - (intOf i).toNat)
        case atStart => exact ⟨_, 0, nk, rfl, by omega, by omega, rfl, rfl, hB, HR0⟩
        case round =>
          obtain ⟨wr', k', nk', rfl, hk', hnk', rfl, rfl, hB', hR'⟩ := hrel
          obtain ⟨_, _, _, s3q, s4q⟩ := (CBox.b HS.out hB').five
          by_cases hlt' : k' < n
          · by_cases hq' : nk' ≤ most
            · obtain ⟨bb, o, x, xk, A, M, Cc, rfl, hb, y0, y1, y2, y3, y4, hx, hok⟩ := (CsW.b H2.out hB').at hlt'
              have hs1 := Lib.hid (Hst'.out k' x nk' hx hq')
              have cs := HK.out k' x hx xk A M Cc (most - nk') wr' (by omega) hok
              have hmx := wtTo_top x (most - nk')
              have em : ((most - nk' : Nat) : Int) = (most : Int) - (nk' : Int) := by omega
              rw [em] at cs
              clear hx hok H2 Hst' HK HS em
              generalize wtTo (most - nk') x = sz at *
              generalize opC x = op' at *
              generalize nmC x = nm' at *
              generalize soC x = nu' at *
              have hnew : Hid (G (k' + 1) (nk' + sz) = R) := by show _ = _; rw [← hR'.out, hs1.out]
              clear hR' hs1
              have hk0 : 0 ≤ (k' : Int) := by omega
              have hk1 : (k' : Int) < (n : Int) := by omega
              go_wp2_with (go_at_call 85; ((with_reducible refine cs.mono ?_); rintro e w4 ⟨rfl, hb4⟩))
              go_roundw
              case rel => exact ⟨_, k' + 1, nk' + sz, rfl, by omega, by omega, by go_num, by go_num, bel_trans hB' hb4, hnew⟩
              case measure => simp [intOf]; omega
            · have hnew : Hid (nk' = R) := by show _ = _; rw [← hR'.out, He2'.out k' nk' (by omega)]
              clear hR'
              go_wp2
              go_ret
              exact ⟨one (by rw [← hnew.out]), bel_trans hB2 hB'⟩
          · have hnew : Hid (nk' = R) := by show _ = _; rw [← hR'.out, He'.out k' nk' (by omega)]
            clear hR'
            go_wp2
            go_ret
            exact ⟨one (by rw [← hnew.out]), bel_trans hB2 hB'⟩
    · obtain rfl : nk = R1 := by rw [← hR.out, He.out k nk (by omega)]
      clear hR HF0
      go_wp2
      go_loopw [5, 7] (fun q i wr0 => ∃ (wr' : World) (k nk' : Nat), wr' = wr0 ∧ k ≤ n ∧ nk' ≤ most + 1 ∧ q = .int .i64 nk' ∧ i = .int .i64 k ∧ Below W2.heap.size W2 wr' ∧ Hid (G k nk' = R)) (fun q i _ => n - (intOf i).toNat)
      case atStart => exact ⟨_, 0, nk, rfl, by omega, by omega, rfl, rfl, hB, HR0⟩
      case round =>
        obtain ⟨wr', k', nk', rfl, hk', hnk', rfl, rfl, hB', hR'⟩ := hrel
        obtain ⟨_, _, _, s3q, s4q⟩ := (CBox.b HS.out hB').five
        by_cases hlt' : k' < n
        · by_cases hq' : nk' ≤ most
          · obtain ⟨bb, o, x, xk, A, M, Cc, rfl, hb, y0, y1, y2, y3, y4, hx, hok⟩ := (CsW.b H2.out hB').at hlt'
            have hs1 := Lib.hid (Hst'.out k' x nk' hx hq')
            have cs := HK.out k' x hx xk A M Cc (most - nk') wr' (by omega) hok
            have hmx := wtTo_top x (most - nk')
            have em : ((most - nk' : Nat) : Int) = (most : Int) - (nk' : Int) := by omega
            rw [em] at cs
            clear hx hok H2 Hst' HK HS em
            generalize wtTo (most - nk') x = sz at *
            generalize opC x = op' at *
            generalize nmC x = nm' at *
            generalize soC x = nu' at *
            have hnew : Hid (G (k' + 1) (nk' + sz) = R) := by show _ = _; rw [← hR'.out, hs1.out]
            clear hR' hs1
            have hk0 : 0 ≤ (k' : Int) := by omega
            have hk1 : (k' : Int) < (n : Int) := by omega
            go_wp2_with (go_at_call 85; ((with_reducible refine cs.mono ?_); rintro e w4 ⟨rfl, hb4⟩))
            go_roundw
            case rel => exact ⟨_, k' + 1, nk' + sz, rfl, by omega, by omega, by go_num, by go_num, bel_trans hB' hb4, hnew⟩
            case measure => simp [intOf]; omega
          · have hnew : Hid (nk' = R) := by show _ = _; rw [← hR'.out, He2'.out k' nk' (by omega)]
            clear hR'
            go_wp2
            go_ret
            exact ⟨one (by rw [← hnew.out]), bel_trans hB2 hB'⟩
        · have hnew : Hid (nk' = R) := by show _ = _; rw [← hR'.out, He'.out k' nk' (by omega)]
          clear hR'
          go_wp2
          go_ret
          exact ⟨one (by rw [← hnew.out]), bel_trans hB2 hB'⟩
theorem weigh_any (t : Cl) : WeOk t := Cl.ind weigh_step t
end Go.Proofs.YtcigeclnbhcohaaGreatDoor.C
