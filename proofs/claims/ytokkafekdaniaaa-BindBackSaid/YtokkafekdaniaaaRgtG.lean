/-
  What is proved: the document's test whether all bound numbers are below 2^62.
-/
import Derived.Test.YtokkafekdaniaaaRgtM
import Derived.Test.YtokkafekdaniaaaClmWt
namespace Go.Proofs.Ytokkafekdaniaaa.C
open Go.RowKit L T
set_option linter.unusedVariables false
set_option linter.unusedSimpArgs false

theorem smallTs_step {x : Tm} {l : List Tm} {k : Nat} (h : l[k]? = some x) : smallTs (l.drop k) = (smallT x && smallTs (l.drop (k + 1))) := by rw [drop_t h, smallTs]
theorem smallCs_step {x : Cl} {l : List Cl} {k : Nat} (h : l[k]? = some x) : smallCs (l.drop k) = (smallC x && smallCs (l.drop (k + 1))) := by rw [drop_c h, smallCs]
def SmTOk (t : Tm) : Prop := ∀ (a : Option Addr) (n c : Nat) (w : World), ArW w t a n c →
  Calls Try.prog 106 #[.agg #[.int .i64 (opT t), .string (nameT t), .int .i64 (numT t), .slice a n c]] w fun e w' => e = .returned (.bool (smallT t)) ∧ Below w.heap.size w w'
set_option maxRecDepth 100000 in
set_option maxHeartbeats 8000000 in
theorem smT_step (t : Tm) (hok : ∀ x ∈ argsT t, SmTOk x) : SmTOk t := by
  intro a n c w hA
  obtain ⟨W2, hW2, hB2, hs2, S2⟩ := box1 w (opT t) (nameT t) (numT t) a n c
  have hT := TsW.b (ArW.args hA) hB2
  have hR : smallT t = (smallTs ((argsT t).drop 0) && (opT t != 2 || decide (numT t < 4611686018427387904))) := smallT_mk t
  generalize smallT t = R at *
  have hk2 : ∀ k x, (argsT t)[k]? = some x → SmTOk x := fun k x h => hok x (List.mem_of_getElem? h)
  have hst : ∀ k x, (argsT t)[k]? = some x → smallTs ((argsT t).drop k) = (smallT x && smallTs ((argsT t).drop (k + 1))) := fun k x h => smallTs_step h
  have he : ∀ k, n ≤ k → smallTs ((argsT t).drop k) = true := fun k h => by rw [List.drop_eq_nil_of_le (by rw [← hT.1]; exact h), smallTs]
  have hn : n ≤ 9223372036854775807 := by have h1 := hT.2.1; have h2 := hT.2.2.1; unfold maxLen at h2; omega
  generalize argsT t = l at *
  obtain ⟨F, hF⟩ : ∃ F : Nat → Bool, ∀ k, smallTs (l.drop k) = F k := ⟨_, fun _ => rfl⟩
  simp only [hF] at hst he hR
  obtain ⟨s0, s1, s2, s3⟩ := S2.four
  have H1 := Lib.hid hT
  have Hst := Lib.hid hst
  have He := Lib.hid he
  have HK := Lib.hid hk2
  have HS := Lib.hid S2
  have HR := Lib.hid hR
  clear hA hT hst he hk2 hok hF S2 hR
  generalize opT t = op at *
  generalize nameT t = nm at *
  generalize numT t = nu at *
  go_enter Try.func106, Try.ntmps106
  go_wp2
  go_loopw [3] (fun i wr0 => ∃ (wr : World) (k : Nat), wr = wr0 ∧ k ≤ n ∧ i = .int .i64 k ∧ Below W2.heap.size W2 wr ∧ Hid (F k = F 0)) (fun i _ => n - (intOf i).toNat)
  case atStart => exact ⟨_, 0, rfl, by omega, rfl, Below.refl _ _, Lib.hid rfl⟩
  case round =>
    obtain ⟨wr, k, rfl, hk, rfl, hB, hRk⟩ := hrel
    obtain ⟨u0, u1, u2, s3r⟩ := (TBox.b HS.out hB).four
    by_cases hlt : k < n
    · obtain ⟨bb, o, x, A, M, Cc, rfl, hb, y0, y1, y2, y3, hx, hok⟩ := (TsW.b H1.out hB).at hlt
      have hs1 := Lib.hid (Hst.out k x hx)
      have cs := HK.out k x hx A M Cc wr hok
      clear hx hok H1 Hst HK HS
      generalize smallT x = px at *
      generalize opT x = op' at *
      generalize nameT x = nm' at *
      generalize numT x = nu' at *
      have hk0 : 0 ≤ (k : Int) := by omega
      have hk1 : (k : Int) < (n : Int) := by omega
      cases px with
      | true =>
        have hnew : Hid (F (k + 1) = F 0) := Lib.hid (by rw [← hRk.out, hs1.out]; rfl)
        clear hRk hs1
        go_wp2_with (go_at_call 106; ((with_reducible refine cs.mono ?_); rintro e w4 ⟨rfl, hb4⟩))
        go_roundw
        case rel => exact ⟨_, k + 1, rfl, by omega, by go_num, bel_trans hB hb4, hnew⟩
        case measure => simp [intOf]; omega
      | false =>
        have hnew : Hid (false = R) := Lib.hid (by rw [HR.out, ← hRk.out, hs1.out]; rfl)
        clear hRk hs1
        go_wp2_with (go_at_call 106; ((with_reducible refine cs.mono ?_); rintro e w4 ⟨rfl, hb4⟩))
        go_ret
        exact ⟨oneB hnew.out, bel_trans hB2 (bel_trans hB hb4)⟩
    · have hF0 : F 0 = true := by rw [← hRk.out, He.out k (by omega)]
      clear hRk
      by_cases h2 : op = 2
      · subst h2
        cases hd : decide (nu < 4611686018427387904) with
        | true =>
          have hnew : Hid (true = R) := Lib.hid (by rw [HR.out, hF0, hd]; rfl)
          clear hF0
          go_wp2
          go_ret
          exact ⟨oneB hnew.out, bel_trans hB2 hB⟩
        | false =>
          have hnew : Hid (false = R) := Lib.hid (by rw [HR.out, hF0, hd]; rfl)
          clear hF0
          go_wp2
          go_ret
          exact ⟨oneB hnew.out, bel_trans hB2 hB⟩
      · have q2 : (op != 2) = true := bne_iff_ne.2 h2
        have hnew : Hid (true = R) := Lib.hid (by rw [HR.out, hF0, q2]; rfl)
        clear hF0 h2
        go_wp2
        go_ret
        exact ⟨oneB hnew.out, bel_trans hB2 hB⟩
theorem SmallT_any (t : Tm) : SmTOk t := Tm.ind smT_step t
def SmCOk (t : Cl) : Prop := ∀ (k : SS) (a : Option Addr) (n c : Nat) (w : World), ArWC w t k a n c →
  Calls Try.prog 46 #[.agg #[.int .i64 (opC t), .string (nmC t), .string (soC t), .slice k.a k.n k.c, .slice a n c]] w fun e w' => e = .returned (.bool (smallC t)) ∧ Below w.heap.size w w'
set_option maxRecDepth 100000 in
set_option maxHeartbeats 8000000 in
theorem smC_step (t : Cl) (hok : ∀ x ∈ subC t, SmCOk x) : SmCOk t := by
  intro kk a n c w hA
  obtain ⟨ka, kn, kc⟩ := kk
  obtain ⟨W2, hW2, hB2, hs2, S2⟩ := cbox1 w (opC t) (nmC t) (soC t) ⟨ka, kn, kc⟩ a n c
  have hT := TsW.b (ArWC.terms hA) hB2
  have hC := CsW.b (ArWC.subs hA) hB2
  dsimp only at hT hW2
  have hR : smallC t = (smallTs ((tsC t).drop 0) && smallCs ((subC t).drop 0)) := smallC_mk t
  generalize smallC t = R at *
  have hk2 : ∀ k x, (subC t)[k]? = some x → SmCOk x := fun k x h => hok x (List.mem_of_getElem? h)
  have hst : ∀ k x, (tsC t)[k]? = some x → smallTs ((tsC t).drop k) = (smallT x && smallTs ((tsC t).drop (k + 1))) := fun k x h => smallTs_step h
  have he : ∀ k, kn ≤ k → smallTs ((tsC t).drop k) = true := fun k h => by rw [List.drop_eq_nil_of_le (by rw [← hT.1]; exact h), smallTs]
  have hst' : ∀ k x, (subC t)[k]? = some x → smallCs ((subC t).drop k) = (smallC x && smallCs ((subC t).drop (k + 1))) := fun k x h => smallCs_step h
  have he' : ∀ k, n ≤ k → smallCs ((subC t).drop k) = true := fun k h => by rw [List.drop_eq_nil_of_le (by rw [← hC.1]; exact h), smallCs]
  have hn : n ≤ 9223372036854775807 := by have h1 := hC.2.1; have h2 := hC.2.2.1; unfold maxLen at h2; omega
  have hkn : kn ≤ 9223372036854775807 := by have h1 := hT.2.1; have h2 := hT.2.2.1; unfold maxLen at h2; omega
  generalize tsC t = lt at *
  generalize subC t = lc at *
  obtain ⟨F, hF⟩ : ∃ F : Nat → Bool, ∀ k, smallTs (lt.drop k) = F k := ⟨_, fun _ => rfl⟩
  obtain ⟨G, hG⟩ : ∃ G : Nat → Bool, ∀ k, smallCs (lc.drop k) = G k := ⟨_, fun _ => rfl⟩
  simp only [hF] at hst he hR
  simp only [hG] at hst' he' hR
  obtain ⟨s0, s1, s2, s3, s4⟩ := S2.five
  have H1 := Lib.hid hT
  have H2 := Lib.hid hC
  have Hst := Lib.hid hst
  have He := Lib.hid he
  have Hst' := Lib.hid hst'
  have He' := Lib.hid he'
  have HK := Lib.hid hk2
  have HS := Lib.hid S2
  have HR := Lib.hid hR
  clear hA hT hC hst he hst' he' hk2 hok hF hG S2 hR
  generalize opC t = op at *
  generalize nmC t = nm at *
  generalize soC t = so at *
  go_enter Try.func46, Try.ntmps46
  go_wp2
  go_loopw [3] (fun i wr0 => ∃ (wr : World) (k : Nat), wr = wr0 ∧ k ≤ kn ∧ i = .int .i64 k ∧ Below W2.heap.size W2 wr ∧ Hid (F k = F 0)) (fun i _ => kn - (intOf i).toNat)
  case atStart => exact ⟨_, 0, rfl, by omega, rfl, Below.refl _ _, Lib.hid rfl⟩
  case round =>
    obtain ⟨wr, k, rfl, hk, rfl, hB, hRk⟩ := hrel
    obtain ⟨_, _, _, s3r, s4r⟩ := (CBox.b HS.out hB).five
    by_cases hlt : k < kn
    · obtain ⟨bb, o, x, A, M, Cc, rfl, hb, y0, y1, y2, y3, hx, hok⟩ := (TsW.b H1.out hB).at hlt
      have hs1 := Lib.hid (Hst.out k x hx)
      have cs := SmallT_any x A M Cc wr hok
      clear hx hok H1 Hst HK HS
      generalize smallT x = px at *
      generalize opT x = op' at *
      generalize nameT x = nm' at *
      generalize numT x = nu' at *
      have hk0 : 0 ≤ (k : Int) := by omega
      have hk1 : (k : Int) < (kn : Int) := by omega
      cases px with
      | true =>
        have hnew : Hid (F (k + 1) = F 0) := Lib.hid (by rw [← hRk.out, hs1.out]; rfl)
        clear hRk hs1
        go_wp2_with (go_at_call 106; ((with_reducible refine cs.mono ?_); rintro e w4 ⟨rfl, hb4⟩))
        go_roundw
        case rel => exact ⟨_, k + 1, rfl, by omega, by go_num, bel_trans hB hb4, hnew⟩
        case measure => simp [intOf]; omega
      | false =>
        have hnew : Hid (false = R) := Lib.hid (by rw [HR.out, ← hRk.out, hs1.out]; rfl)
        clear hRk hs1
        go_wp2_with (go_at_call 106; ((with_reducible refine cs.mono ?_); rintro e w4 ⟨rfl, hb4⟩))
        go_ret
        exact ⟨oneB hnew.out, bel_trans hB2 (bel_trans hB hb4)⟩
    · have hG0 : Hid (G 0 = R) := Lib.hid (by rw [HR.out, ← hRk.out, He.out k (by omega)]; rfl)
      clear hRk
      go_wp2
      go_loopw [4] (fun i wr0 => ∃ (wr' : World) (k : Nat), wr' = wr0 ∧ k ≤ n ∧ i = .int .i64 k ∧ Below W2.heap.size W2 wr' ∧ Hid (G k = R)) (fun i _ => n - (intOf i).toNat)
      case atStart => exact ⟨_, 0, rfl, by omega, rfl, hB, hG0⟩
      case round =>
        clear hB s3r s4r
        obtain ⟨wr', k', rfl, hk', rfl, hB, hRk⟩ := hrel
        obtain ⟨_, _, _, s3r, s4r⟩ := (CBox.b HS.out hB).five
        by_cases hlt' : k' < n
        · obtain ⟨bb, o, x, xk, A, M, Cc, rfl, hb, y0, y1, y2, y3, y4, hx, hok⟩ := (CsW.b H2.out hB).at hlt'
          have hs1 := Lib.hid (Hst'.out k' x hx)
          have cs := HK.out k' x hx xk A M Cc wr' hok
          clear hx hok H2 Hst' HK HS
          generalize smallC x = px at *
          generalize opC x = op' at *
          generalize nmC x = nm' at *
          generalize soC x = so' at *
          have hk0 : 0 ≤ (k' : Int) := by omega
          have hk1 : (k' : Int) < (n : Int) := by omega
          cases px with
          | true =>
            have hnew : Hid (G (k' + 1) = R) := Lib.hid (by rw [← hRk.out, hs1.out]; rfl)
            clear hRk hs1
            go_wp2_with (go_at_call 46; ((with_reducible refine cs.mono ?_); rintro e w4 ⟨rfl, hb4⟩))
            go_roundw
            case rel => exact ⟨_, k' + 1, rfl, by omega, by go_num, bel_trans hB hb4, hnew⟩
            case measure => simp [intOf]; omega
          | false =>
            have hnew : Hid (false = R) := Lib.hid (by rw [← hRk.out, hs1.out]; rfl)
            clear hRk hs1
            go_wp2_with (go_at_call 46; ((with_reducible refine cs.mono ?_); rintro e w4 ⟨rfl, hb4⟩))
            go_ret
            exact ⟨oneB hnew.out, bel_trans hB2 (bel_trans hB hb4)⟩
        · have hnew : Hid (true = R) := Lib.hid (by rw [← hRk.out, He'.out k' (by omega)])
          clear hRk
          go_wp2
          go_ret
          exact ⟨oneB hnew.out, bel_trans hB2 hB⟩
theorem SmallC_any (t : Cl) : SmCOk t := Cl.ind smC_step t
end Go.Proofs.Ytokkafekdaniaaa.C
