/-
  What is proved: what the document's weight of a claim, and Big, return: a count of the parts that stops behind a bound.
-/
import Derived.Test.YtcigeclnbhcohaaGreatDoorBC
import Derived.Test.YtcigeclnbhcohaaGreatDoorBL
namespace Go.Proofs.YtcigeclnbhcohaaGreatDoor.C
open Go.RowKit L T
set_option linter.unusedVariables false
set_option linter.unusedSimpArgs false

theorem wtTo_mk (most : Nat) (c : Cl) : wtTo most c = wtTos most (szTos most 1 (tsC c)) (subC c) := by cases c; rw [wtTo]; rfl
def WtOk (t : Cl) : Prop := ∀ (k : SS) (a : Option Addr) (n c most : Nat) (w : World), most ≤ 1000000000 → ArWC w t k a n c →
  Calls Tryz.prog 65 #[.agg #[.int .i64 (opC t), .string (nmC t), .string (soC t), .slice k.a k.n k.c, .slice a n c], .int .i64 most] w fun e w' => e = .returned (.int .i64 (wtTo most t)) ∧ Below w.heap.size w w'
set_option maxRecDepth 100000 in
set_option maxHeartbeats 8000000 in
theorem weight_step (t : Cl) (hok : ∀ x ∈ subC t, WtOk x) : WtOk t := by
  intro kk a n c most w hm hA
  obtain ⟨ka, kn, kc⟩ := kk
  obtain ⟨W2, hW2, hB2, hs2, S2⟩ := cbox1 w (opC t) (nmC t) (soC t) ⟨ka, kn, kc⟩ a n c
  have hT := TsW.b (ArWC.terms hA) hB2
  have hC := CsW.b (ArWC.subs hA) hB2
  dsimp only at hT hW2
  rw [wtTo_mk]
  generalize hlt : tsC t = lt at *
  generalize hlc : subC t = lc at *
  have hst : ∀ k x q, lt[k]? = some x → q ≤ most → szTos most q (lt.drop k) = szTos most (q + szTo (most - q) x) (lt.drop (k + 1)) := fun k x q h h2 => by rw [drop_t h, szTos, if_pos h2]
  have he : ∀ k q, kn ≤ k → szTos most q (lt.drop k) = q := fun k q h => by rw [List.drop_eq_nil_of_le (by rw [← hT.1]; exact h), szTos]
  have he2 : ∀ k q, most < q → szTos most q (lt.drop k) = q := fun k q h => by
    cases hd : lt.drop k with
    | nil => rw [szTos]
    | cons x r => rw [szTos, if_neg (by omega)]
  have hst' : ∀ k x q, lc[k]? = some x → q ≤ most → wtTos most q (lc.drop k) = wtTos most (q + wtTo (most - q) x) (lc.drop (k + 1)) := fun k x q h h2 => by rw [drop_c h, wtTos, if_pos h2]
  have he' : ∀ k q, n ≤ k → wtTos most q (lc.drop k) = q := fun k q h => by rw [List.drop_eq_nil_of_le (by rw [← hC.1]; exact h), wtTos]
  have he2' : ∀ k q, most < q → wtTos most q (lc.drop k) = q := fun k q h => by
    cases hd : lc.drop k with
    | nil => rw [wtTos]
    | cons x r => rw [wtTos, if_neg (by omega)]
  have hn : n ≤ 9223372036854775807 := by have h1 := hC.2.1; have h2 := hC.2.2.1; unfold maxLen at h2; omega
  have hkn : kn ≤ 9223372036854775807 := by have h1 := hT.2.1; have h2 := hT.2.2.1; unfold maxLen at h2; omega
  have hk2 : ∀ k x, lc[k]? = some x → WtOk x := fun k x h => hok x (List.mem_of_getElem? h)
  have hR1 : szTos most 1 lt ≤ most + 1 := by have := szTos_top lt most 1; omega
  have h0 : szTos most 1 lt = szTos most 1 (lt.drop 0) := rfl
  have h0' : ∀ q, wtTos most q lc = wtTos most q (lc.drop 0) := fun q => rfl
  rw [h0']
  generalize hR1e : szTos most 1 lt = R1 at *
  obtain ⟨F, hF⟩ : ∃ F : Nat → Nat → Nat, ∀ k q, szTos most q (lt.drop k) = F k q := ⟨_, fun _ _ => rfl⟩
  obtain ⟨G, hG⟩ : ∃ G : Nat → Nat → Nat, ∀ k q, wtTos most q (lc.drop k) = G k q := ⟨_, fun _ _ => rfl⟩
  simp only [hF] at hst he he2 h0
  simp only [hG] at hst' he' he2' ⊢
  generalize hRR : G 0 R1 = R
  have HR0 := Lib.hid hRR
  have HF0 := Lib.hid h0.symm
  clear hRR hF hG h0 h0' hok hR1e
  obtain ⟨s0, s1, s2, s3, s4⟩ := S2.five
  have H1 := Lib.hid hT
  have H2 := Lib.hid hC
  have Hst := Lib.hid hst
  have He := Lib.hid he
  have He2 := Lib.hid he2
  have Hst' := Lib.hid hst'
  have He' := Lib.hid he'
  have He2' := Lib.hid he2'
  have HK := Lib.hid hk2
  have HS := Lib.hid S2
  have HR1 := Lib.hid hR1
  clear hA hT hC hst he he2 hst' he' he2' hk2 S2 hlt hlc s0 s1 s2 hR1
  generalize opC t = op at *
  generalize nmC t = nm at *
  generalize soC t = nu at *
  go_enter Tryz.func65, Tryz.ntmps65
  go_wp2
  go_loopw [5, 6] (fun q i wr0 => ∃ (wr : World) (k nk : Nat), wr = wr0 ∧ k ≤ kn ∧ nk ≤ most + 1 ∧ q = .int .i64 nk ∧ i = .int .i64 k ∧ Below W2.heap.size W2 wr ∧ Hid (F k nk = R1)) (fun q i _ => kn - (intOf i).toNat)
  case atStart => exact ⟨_, 0, 1, rfl, by omega, by omega, rfl, rfl, Below.refl _ _, HF0⟩
  case round =>
    obtain ⟨wr, k, nk, rfl, hk, hnk, rfl, rfl, hB, hR⟩ := hrel
    obtain ⟨_, _, _, s3r, s4r⟩ := (CBox.b HS.out hB).five
    by_cases hlt : k < kn
    · by_cases hq : nk ≤ most
      · obtain ⟨bb, o, x, A, M, Cc, rfl, hb, y0, y1, y2, y3, hx, hok⟩ := (TsW.b H1.out hB).at hlt
        have hs1 := Lib.hid (Hst.out k x nk hx hq)
        have cs := Size_any x A M Cc (most - nk) wr (by omega) hok
        have hmx := szTo_max x (most - nk)
        have em : ((most - nk : Nat) : Int) = (most : Int) - (nk : Int) := by omega
        rw [em] at cs
        clear hx hok H1 Hst HK HS em
        generalize szTo (most - nk) x = sz at *
        generalize opT x = op' at *
        generalize nameT x = nm' at *
        generalize numT x = nu' at *
        have hnew : Hid (F (k + 1) (nk + sz) = R1) := by show _ = _; rw [← hR.out, hs1.out]
        clear hR hs1
        have hk0 : 0 ≤ (k : Int) := by omega
        have hk1 : (k : Int) < (kn : Int) := by omega
        go_wp2_with (go_at_call 9; ((with_reducible refine cs.mono ?_); rintro e w4 ⟨rfl, hb4⟩))
        go_roundw
        case rel => exact ⟨_, k + 1, nk + sz, rfl, by omega, by omega, by go_num, by go_num, bel_trans hB hb4, hnew⟩
        case measure => simp [intOf]; omega
      · obtain rfl : nk = R1 := by rw [← hR.out, He2.out k nk (by omega)]
        clear hR HF0
        go_wp2
        go_loopw [5, 7] (fun q i wr0 => ∃ (wr' : World) (k nk' : Nat), wr' = wr0 ∧ k ≤ n ∧ nk' ≤ most + 1 ∧ q = .int .i64 nk' ∧ i = .int .i64 k ∧ Below W2.heap.size W2 wr' ∧ Hid (G k nk' = R)) (fun q i _ => n - (intOf i).toNat)
        case atStart => exact ⟨_, 0, nk, rfl, by omega, by omega, rfl, rfl, hB, HR0⟩
        case round =>
          obtain ⟨wr', k', nk', rfl, hk', hnk', rfl, rfl, hB', hR'⟩ := hrel
          obtain ⟨_, _, _, s3q, s4q⟩ := (CBox.b HS.out hB').five
          by_cases hlt' : k' < n
          · by_cases hq' : nk' ≤ most
            · obtain ⟨bb, o, x, xk, A, M, Cc, rfl, hb, y0, y1, y2, y3, y4, hx, hok⟩ := (CsW.b H2.out hB').at hlt'
              have hs1 := Lib.hid (Hst'.out k' x nk' hx hq')
              have cs := HK.out k' x hx xk A M Cc (most - nk') wr' (by omega) hok
              have hmx := wtTo_top x (most - nk')
              have em : ((most - nk' : Nat) : Int) = (most : Int) - (nk' : Int) := by omega
              rw [em] at cs
              clear hx hok H2 Hst' HK HS em
              generalize wtTo (most - nk') x = sz at *
              generalize opC x = op' at *
              generalize nmC x = nm' at *
              generalize soC x = nu' at *
              have hnew : Hid (G (k' + 1) (nk' + sz) = R) := by show _ = _; rw [← hR'.out, hs1.out]
              clear hR' hs1
              have hk0 : 0 ≤ (k' : Int) := by omega
              have hk1 : (k' : Int) < (n : Int) := by omega
              go_wp2_with (go_at_call 65; ((with_reducible refine cs.mono ?_); rintro e w4 ⟨rfl, hb4⟩))
              go_roundw
              case rel => exact ⟨_, k' + 1, nk' + sz, rfl, by omega, by omega, by go_num, by go_num, bel_trans hB' hb4, hnew⟩
              case measure => simp [intOf]; omega
            · have hnew : Hid (nk' = R) := by show _ = _; rw [← hR'.out, He2'.out k' nk' (by omega)]
              clear hR'
              go_wp2
              go_ret
              exact ⟨one (by rw [← hnew.out]), bel_trans hB2 hB'⟩
          · have hnew : Hid (nk' = R) := by show _ = _; rw [← hR'.out, He'.out k' nk' (by omega)]
            clear hR'
            go_wp2
            go_ret
            exact ⟨one (by rw [← hnew.out]), bel_trans hB2 hB'⟩
    · obtain rfl : nk = R1 := by rw [← hR.out, He.out k nk (by omega)]
      clear hR HF0
      go_wp2
      go_loopw [5, 7] (fun q i wr0 => ∃ (wr' : World) (k nk' : Nat), wr' = wr0 ∧ k ≤ n ∧ nk' ≤ most + 1 ∧ q = .int .i64 nk' ∧ i = .int .i64 k ∧ Below W2.heap.size W2 wr' ∧ Hid (G k nk' = R)) (fun q i _ => n - (intOf i).toNat)
      case atStart => exact ⟨_, 0, nk, rfl, by omega, by omega, rfl, rfl, hB, HR0⟩
      case round =>
        obtain ⟨wr', k', nk', rfl, hk', hnk', rfl, rfl, hB', hR'⟩ := hrel
        obtain ⟨_, _, _, s3q, s4q⟩ := (CBox.b HS.out hB').five
        by_cases hlt' : k' < n
        · by_cases hq' : nk' ≤ most
          · obtain ⟨bb, o, x, xk, A, M, Cc, rfl, hb, y0, y1, y2, y3, y4, hx, hok⟩ := (CsW.b H2.out hB').at hlt'
            have hs1 := Lib.hid (Hst'.out k' x nk' hx hq')
            have cs := HK.out k' x hx xk A M Cc (most - nk') wr' (by omega) hok
            have hmx := wtTo_top x (most - nk')
            have em : ((most - nk' : Nat) : Int) = (most : Int) - (nk' : Int) := by omega
            rw [em] at cs
            clear hx hok H2 Hst' HK HS em
            generalize wtTo (most - nk') x = sz at *
            generalize opC x = op' at *
            generalize nmC x = nm' at *
            generalize soC x = nu' at *
            have hnew : Hid (G (k' + 1) (nk' + sz) = R) := by show _ = _; rw [← hR'.out, hs1.out]
            clear hR' hs1
            have hk0 : 0 ≤ (k' : Int) := by omega
            have hk1 : (k' : Int) < (n : Int) := by omega
            go_wp2_with (go_at_call 65; ((with_reducible refine cs.mono ?_); rintro e w4 ⟨rfl, hb4⟩))
            go_roundw
            case rel => exact ⟨_, k' + 1, nk' + sz, rfl, by omega, by omega, by go_num, by go_num, bel_trans hB' hb4, hnew⟩
            case measure => simp [intOf]; omega
          · have hnew : Hid (nk' = R) := by show _ = _; rw [← hR'.out, He2'.out k' nk' (by omega)]
            clear hR'
            go_wp2
            go_ret
            exact ⟨one (by rw [← hnew.out]), bel_trans hB2 hB'⟩
        · have hnew : Hid (nk' = R) := by show _ = _; rw [← hR'.out, He'.out k' nk' (by omega)]
          clear hR'
          go_wp2
          go_ret
          exact ⟨one (by rw [← hnew.out]), bel_trans hB2 hB'⟩
theorem weight_any (t : Cl) : WtOk t := Cl.ind weight_step t
set_option maxHeartbeats 1000000 in
theorem Big_any (t : Cl) (k : SS) (a : Option Addr) (n c most : Nat) (w : World) (hm : most ≤ 1000000000) (hA : ArWC w t k a n c) :
    Calls Tryz.prog 35 #[.agg #[.int .i64 (opC t), .string (nmC t), .string (soC t), .slice k.a k.n k.c, .slice a n c], .int .i64 most] w fun e w' => e = .returned (.bool (decide (most < wtTo most t))) ∧ Below w.heap.size w w' := by
  obtain ⟨W2, hW2, hB2, hs2, S2⟩ := cbox1 w (opC t) (nmC t) (soC t) k a n c
  have cW := weight_any t k a n c most W2 hm (ArWC.b hA hB2)
  obtain ⟨s0, s1, s2, s3, s4⟩ := S2.five
  clear S2 hA
  generalize wtTo most t = R at *
  generalize opC t = op at *
  generalize nmC t = nm at *
  generalize soC t = so at *
  have hd : Hid (decide ((R : Int) > (most : Int)) = decide (most < R)) := by show _ = _; rw [decide_eq_decide]; omega
  go_enter Tryz.func35, Tryz.ntmps35
  go_wp2_with (go_at_call 65; ((with_reducible refine cW.mono ?_); rintro e w3 ⟨rfl, hb3⟩))
  go_ret
  exact ⟨oneB (by first | exact hd.out | rw [← hd.out]), bel_trans hB2 hb3⟩
end Go.Proofs.YtcigeclnbhcohaaGreatDoor.C
