/-
  What is proved: what the document's comparison of two claims returns, and its Same.
-/
import Derived.Test.YtgjjhonopindlaaClmRt
import Derived.Test.YtgjjhonopindlaaClmQ
import Derived.Test.YtgjjhonopindlaaClmCp
namespace Go.Proofs.Ytgjjhonopindlaa.C
open Go.RowKit L T
set_option linter.unusedVariables false
set_option linter.unusedSimpArgs false

/-- the comparison, at this claim (the document's) -/
def RefClOk (t : Cl) : Prop := ∀ (u : Cl) (k : SS) (a : Option Addr) (n c : Nat) (k' : SS) (a' : Option Addr) (n' c' : Nat) (w : World), ArWC w t k a n c → ArWC w u k' a' n' c' →
  Calls Try.prog 12 #[.agg #[.int .i64 (opC t), .string (nmC t), .string (soC t), .slice k.a k.n k.c, .slice a n c], .agg #[.int .i64 (opC u), .string (nmC u), .string (soC u), .slice k'.a k'.n k'.c, .slice a' n' c']] w fun e w' => e = .returned (.int .i64 (cmpC t u)) ∧ Below w.heap.size w w'
set_option maxRecDepth 100000 in
set_option maxHeartbeats 16000000 in
theorem refCl_step (t : Cl) (hok : ∀ x ∈ subC t, RefClOk x) : RefClOk t := by
  intro u k0 a n c k0' a' n' c' w hA hA'
  obtain ⟨ka, kn, kc⟩ := k0
  obtain ⟨ka', kn', kc'⟩ := k0'
  obtain ⟨W2, hW2, hB2, hs2, S2, T2⟩ := cbox2 w (opC t) (nmC t) (soC t) ⟨ka, kn, kc⟩ a n c (opC u) (nmC u) (soC u) ⟨ka', kn', kc'⟩ a' n' c'
  have hn : (subC t).length = n := (ArWC.subs hA).1.symm
  have hn' : (subC u).length = n' := (ArWC.subs hA').1.symm
  have hm : (tsC t).length = kn := (ArWC.terms hA).1.symm
  have hm' : (tsC u).length = kn' := (ArWC.terms hA').1.symm
  have hTt := Lib.hid (CsW.b (ArWC.subs hA) hB2)
  have hTu := Lib.hid (CsW.b (ArWC.subs hA') hB2)
  have hKt := Lib.hid (TsW.b (ArWC.terms hA) hB2)
  have hKu := Lib.hid (TsW.b (ArWC.terms hA') hB2)
  have hb : n ≤ 9223372036854775807 := by have h1 := (ArWC.subs hA).2.1; have h2 := (ArWC.subs hA).2.2.1; unfold maxLen at h2; omega
  have hbk : kn ≤ 9223372036854775807 := by have h1 := (ArWC.terms hA).2.1; have h2 := (ArWC.terms hA).2.2.1; unfold maxLen at h2; dsimp only at h1 h2; omega
  rw [cmpC_code]
  unfold cmpTL
  dsimp only at hW2 hm hm' hKt hKu
  rw [hn, hn', hm, hm']
  clear hA hA'
  generalize hlt : subC t = l at *
  generalize hlu : subC u = l' at *
  generalize hmt : tsC t = g at *
  generalize hmu : tsC u = g' at *
  clear hlt hlu hmt hmu
  have Hst := Lib.hid (show ∀ k (f g : Cl), l[k]? = some f → l'[k]? = some g → cmpCs (l.drop k) (l'.drop k) = lex (cmpC f g) (cmpCs (l.drop (k + 1)) (l'.drop (k + 1))) from fun k f g h h2 => by rw [drop_c h, drop_c h2, cmpCs])
  have He := Lib.hid (show ∀ k, n ≤ k → cmpCs (l.drop k) (l'.drop k) = 0 from fun k h => by rw [List.drop_eq_nil_of_le (by omega), cmpCs])
  have Gst := Lib.hid (show ∀ k (f h : Tm), g[k]? = some f → g'[k]? = some h → cmpTs (g.drop k) (g'.drop k) = lex (cmpT f h) (cmpTs (g.drop (k + 1)) (g'.drop (k + 1))) from fun k f g h h2 => by rw [drop_t h, drop_t h2, cmpTs])
  have Ge := Lib.hid (show ∀ k, kn ≤ k → cmpTs (g.drop k) (g'.drop k) = 0 from fun k h => by rw [List.drop_eq_nil_of_le (by omega), cmpTs])
  have HK := Lib.hid (show ∀ k f, l[k]? = some f → RefClOk f from fun k f h => hok f (List.mem_of_getElem? h))
  have h0 : cmpCs l l' = cmpCs (l.drop 0) (l'.drop 0) := rfl
  have h0' : cmpTs g g' = cmpTs (g.drop 0) (g'.drop 0) := rfl
  rw [h0, h0']
  obtain ⟨F, hF⟩ : ∃ F : Nat → Int, ∀ k, cmpCs (l.drop k) (l'.drop k) = F k := ⟨_, fun _ => rfl⟩
  obtain ⟨G, hG⟩ : ∃ G : Nat → Int, ∀ k, cmpTs (g.drop k) (g'.drop k) = G k := ⟨_, fun _ => rfl⟩
  simp only [hF] at Hst He ⊢
  simp only [hG] at Gst Ge ⊢
  clear hF hG h0 h0' hok hn hn' hm hm'
  obtain ⟨s0, s1, s2, s3, s4⟩ := S2.five
  obtain ⟨t0, t1, t2, t3, t4⟩ := T2.five
  have HS := Lib.hid S2
  have HT2 := Lib.hid T2
  clear S2 T2
  dsimp only at s3 t3
  generalize opC t = op at *
  generalize nmC t = nm at *
  generalize soC t = so at *
  generalize opC u = op' at *
  generalize nmC u = nm' at *
  generalize soC u = so' at *
  have c0 := fun (w : World) => number8_any op op' w
  have c1 := fun (w : World) => text8_any nm nm' w
  have c2 := fun (w : World) => text8_any so so' w
  have c3 := fun (w : World) => number8_any (kn : Int) (kn' : Int) w
  have c4 := fun (w : World) => number8_any (n : Int) (n' : Int) w
  have hlk : cmpI (kn : Int) (kn' : Int) = 0 → kn = kn' := fun h => by have := (linI.eq _ _).1 h; omega
  have hln : cmpI (n : Int) (n' : Int) = 0 → n = n' := fun h => by have := (linI.eq _ _).1 h; omega
  generalize hx1 : nmCmp op nm nm' = x1 at *
  have Hx1 := Lib.hid hx1
  clear hx1
  generalize cmpI op op' = x0 at *
  generalize cmpN so so' = x2 at *
  generalize cmpI (kn : Int) (kn' : Int) = x3 at *
  generalize cmpI (n : Int) (n' : Int) = x4 at *
  -- the value ahead of the first loop, and what follows from it
  generalize hR : lex (lex x0 (lex x1 x2)) (lex (lex x3 (G 0)) (lex x4 (F 0))) = R at *
  have HV := Lib.hid (show ∀ V, V = lex x0 (lex x1 (lex x2 x3)) → Hid ((V = 0 ∧ kn = kn' ∧ lex (G 0) (lex x4 (F 0)) = R) ∨ (V ≠ 0 ∧ V = R)) from fun V hV => by
    have e : lex V (lex (G 0) (lex x4 (F 0))) = R := by rw [hV, ← hR]; simp only [lex_assoc]
    by_cases h : V = 0
    · refine .inl ⟨h, ?_, by rw [← e, h, zero_lex]⟩
      rw [h] at hV
      exact hlk (lex_eq.1 (lex_eq.1 (lex_eq.1 hV.symm).2).2).2
    · refine .inr ⟨h, ?_⟩
      unfold lex at e; rw [if_pos h] at e; exact e)
  have HN := Lib.hid hln
  clear hR hlk hln
  by_cases h0 : x0 = 0
  · subst h0
    by_cases h11 : op = 11
    · subst h11
      obtain rfl : x1 = 0 := by rw [← Hx1.out]; rfl
      by_cases h2 : x2 = 0
      · subst h2
        have HV0 := HV.out x3 (by rw [zero_lex, zero_lex, zero_lex])
        clear HV
        go_enter Try.func12, Try.ntmps12
        go_wp2_with (first
          | (go_at_call 38; (first | ((with_reducible refine (c0 _).mono ?_); rintro e w4 ⟨rfl, rfl⟩) | ((with_reducible refine (c3 _).mono ?_); rintro e w4 ⟨rfl, rfl⟩)))
          | (go_at_call 39; (first | ((with_reducible refine (c1 _).mono ?_); rintro e w4 ⟨rfl, rfl⟩) | ((with_reducible refine (c2 _).mono ?_); rintro e w4 ⟨rfl, rfl⟩))))
        clear c0 c1 c2 c3
        go_loopw [5, 6] (fun q i wr0 => ∃ (wr : World) (k : Nat) (v : Int), wr = wr0 ∧ k ≤ kn ∧ q = .int .i64 v ∧ i = .int .i64 k ∧ Below W2.heap.size W2 wr ∧ Hid ((v = 0 ∧ kn = kn' ∧ lex (G k) (lex x4 (F 0)) = R) ∨ (v ≠ 0 ∧ v = R))) (fun q i _ => kn - (intOf i).toNat)
        case atStart => exact ⟨_, 0, _, rfl, by omega, rfl, rfl, Below.refl _ _, HV0⟩
        case round =>
          obtain ⟨wr, k, v, rfl, hk, rfl, rfl, hB, hR⟩ := hrel
          obtain ⟨_, _, _, sr, sr4⟩ := (CBox.b HS.out hB).five
          obtain ⟨_, _, _, tr, tr4⟩ := (CBox.b HT2.out hB).five
          dsimp only at sr tr
          rcases hR.out with ⟨rfl, rfl, hFk⟩ | ⟨hv, hvR⟩
          · by_cases hlt : k < kn
            · obtain ⟨bb, o, t, A, M, Cc, rfl, hb, y0, y1, y2, y3, hx, hok⟩ := (TsW.b hKt.out hB).at hlt
              obtain ⟨bb', o', u, A', M', Cc', rfl, hb', z0, z1, z2, z3, hx', hok'⟩ := (TsW.b hKu.out hB).at hlt
              have hs1 := Gst.out k t u hx hx'
              have hk0 : 0 ≤ (k : Int) := by omega
              have hk1 : (k : Int) < (kn : Int) := by omega
              have hBd : Below wr.heap.size wr wr.drew := (Below.refl _ _).drew
              have cs := refTm_any t u A M Cc A' M' Cc' wr.drew (ArW.b hok hBd) (ArW.b hok' hBd)
              have lS := Blk.lt (CBox.b HS.out hB)
              have lT := Blk.lt (CBox.b HT2.out hB)
              generalize cmpT t u = Q at *
              have hnew : Hid ((Q = 0 ∧ kn = kn ∧ lex (G (k + 1)) (lex x4 (F 0)) = R) ∨ (Q ≠ 0 ∧ Q = R)) := by
                rw [hs1, lex_assoc] at hFk
                by_cases hQ : Q = 0
                · exact .inl ⟨hQ, rfl, by rw [hQ, zero_lex] at hFk; exact hFk⟩
                · exact .inr ⟨hQ, by unfold lex at hFk; rw [if_pos hQ] at hFk; exact hFk⟩
              clear hx hx' hok hok' hTt hTu hKt hKu Hst Gst HK hR hs1 hFk HV0
              generalize opT t = op2 at *
              generalize nameT t = nm2 at *
              generalize numT t = nu2 at *
              generalize opT u = op3 at *
              generalize nameT u = nm3 at *
              generalize numT u = nu3 at *
              go_wp2_with fail
              go_region_held3 (fun w' => w'.cell? ⟨w.heap.size, 3, none⟩ = some (.slice (some ⟨bb, o, none⟩) kn kc) ∧ w'.cell? ⟨w.heap.size + 1, 3, none⟩ = some (.slice (some ⟨bb', o', none⟩) kn kc') ∧ w'.cell? ⟨bb, o + k * 4, none⟩ = some (.int .i64 op2) ∧ w'.cell? ⟨bb, o + k * 4 + 1, none⟩ = some (.string nm2) ∧ w'.cell? ⟨bb, o + k * 4 + 1 + 1, none⟩ = some (.int .i64 nu2) ∧ w'.cell? ⟨bb, o + k * 4 + 1 + 1 + 1, none⟩ = some (.slice A M Cc) ∧ w'.cell? ⟨bb', o' + k * 4, none⟩ = some (.int .i64 op3) ∧ w'.cell? ⟨bb', o' + k * 4 + 1, none⟩ = some (.string nm3) ∧ w'.cell? ⟨bb', o' + k * 4 + 1 + 1, none⟩ = some (.int .i64 nu3) ∧ w'.cell? ⟨bb', o' + k * 4 + 1 + 1 + 1, none⟩ = some (.slice A' M' Cc'))
                (first | go_keep | (exact ⟨(B4.cell lS).trans sr, (B4.cell lT).trans tr, (B4.cell hb).trans y0, (B4.cell hb).trans y1, (B4.cell hb).trans y2, (B4.cell hb).trans y3, (B4.cell hb').trans z0, (B4.cell hb').trans z1, (B4.cell hb').trans z2, (B4.cell hb').trans z3⟩))
                (first | (go_at_call 40; ((with_reducible refine cs.mono ?_); rintro e w4 ⟨rfl, hb4⟩; have B4 := bel_trans hBd hb4)))
              go_wp2
              go_roundw
              case rel => exact ⟨_, k + 1, Q, rfl, by omega, rfl, by go_num, bel_trans hB B4, hnew⟩
              case measure => simp [intOf]; omega
            · rw [Ge.out k (by omega), zero_lex] at hFk
              have HW0 : Hid ((x4 = 0 ∧ n = n' ∧ F 0 = R) ∨ (x4 ≠ 0 ∧ x4 = R)) := by
                by_cases h4 : x4 = 0
                · exact .inl ⟨h4, HN.out h4, by rw [h4, zero_lex] at hFk; exact hFk⟩
                · exact .inr ⟨h4, by unfold lex at hFk; rw [if_pos h4] at hFk; exact hFk⟩
              clear hR hFk HV0
              go_wp2_with (go_at_call 38; ((with_reducible refine (c4 _).mono ?_); rintro e w4 ⟨rfl, rfl⟩))
              go_loopw [5, 7] (fun q i wr0 => ∃ (wr : World) (k : Nat) (v : Int), wr = wr0 ∧ k ≤ n ∧ q = .int .i64 v ∧ i = .int .i64 k ∧ Below W2.heap.size W2 wr ∧ Hid ((v = 0 ∧ n = n' ∧ F k = R) ∨ (v ≠ 0 ∧ v = R))) (fun q i _ => n - (intOf i).toNat)
              case atStart => exact ⟨_, 0, _, rfl, by omega, rfl, rfl, hB, HW0⟩
              case round =>
                obtain ⟨wr, k, v, rfl, hk, rfl, rfl, hB, hR⟩ := hrel
                obtain ⟨_, _, _, _, sr⟩ := (CBox.b HS.out hB).five
                obtain ⟨_, _, _, _, tr⟩ := (CBox.b HT2.out hB).five
                rcases hR.out with ⟨rfl, rfl, hFk⟩ | ⟨hv, hvR⟩
                · by_cases hlt : k < n
                  · obtain ⟨bb, o, t, xk, A, M, Cc, rfl, hb, y0, y1, y2, y3, y4, hx, hok⟩ := (CsW.b hTt.out hB).at hlt
                    obtain ⟨bb', o', u, xk', A', M', Cc', rfl, hb', z0, z1, z2, z3, z4, hx', hok'⟩ := (CsW.b hTu.out hB).at hlt
                    have hs1 := Hst.out k t u hx hx'
                    have hk0 : 0 ≤ (k : Int) := by omega
                    have hk1 : (k : Int) < (n : Int) := by omega
                    have hBd : Below wr.heap.size wr wr.drew := (Below.refl _ _).drew
                    have cs := HK.out k t hx u xk A M Cc xk' A' M' Cc' wr.drew (ArWC.b hok hBd) (ArWC.b hok' hBd)
                    have lS := Blk.lt (CBox.b HS.out hB)
                    have lT := Blk.lt (CBox.b HT2.out hB)
                    generalize cmpC t u = Q at *
                    have hnew : Hid ((Q = 0 ∧ n = n ∧ F (k + 1) = R) ∨ (Q ≠ 0 ∧ Q = R)) := by
                      rw [hs1] at hFk
                      by_cases hQ : Q = 0
                      · exact .inl ⟨hQ, rfl, by rw [hQ, zero_lex] at hFk; exact hFk⟩
                      · exact .inr ⟨hQ, by unfold lex at hFk; rw [if_pos hQ] at hFk; exact hFk⟩
                    clear hx hx' hok hok' hTt hTu Hst HK hR hs1 hFk HW0
                    generalize opC t = op2 at *
                    generalize nmC t = nm2 at *
                    generalize soC t = nu2 at *
                    generalize opC u = op3 at *
                    generalize nmC u = nm3 at *
                    generalize soC u = nu3 at *
                    go_wp2_with fail
                    go_region_held3 (fun w' => w'.cell? ⟨w.heap.size, 4, none⟩ = some (.slice (some ⟨bb, o, none⟩) n c) ∧ w'.cell? ⟨w.heap.size + 1, 4, none⟩ = some (.slice (some ⟨bb', o', none⟩) n c') ∧ w'.cell? ⟨bb, o + k * 5, none⟩ = some (.int .i64 op2) ∧ w'.cell? ⟨bb, o + k * 5 + 1, none⟩ = some (.string nm2) ∧ w'.cell? ⟨bb, o + k * 5 + 1 + 1, none⟩ = some (.string nu2) ∧ w'.cell? ⟨bb, o + k * 5 + 1 + 1 + 1, none⟩ = some (.slice xk.a xk.n xk.c) ∧ w'.cell? ⟨bb, o + k * 5 + 1 + 1 + 1 + 1, none⟩ = some (.slice A M Cc) ∧ w'.cell? ⟨bb', o' + k * 5, none⟩ = some (.int .i64 op3) ∧ w'.cell? ⟨bb', o' + k * 5 + 1, none⟩ = some (.string nm3) ∧ w'.cell? ⟨bb', o' + k * 5 + 1 + 1, none⟩ = some (.string nu3) ∧ w'.cell? ⟨bb', o' + k * 5 + 1 + 1 + 1, none⟩ = some (.slice xk'.a xk'.n xk'.c) ∧ w'.cell? ⟨bb', o' + k * 5 + 1 + 1 + 1 + 1, none⟩ = some (.slice A' M' Cc'))
                      (first | go_keep | (exact ⟨(B4.cell lS).trans sr, (B4.cell lT).trans tr, (B4.cell hb).trans y0, (B4.cell hb).trans y1, (B4.cell hb).trans y2, (B4.cell hb).trans y3, (B4.cell hb).trans y4, (B4.cell hb').trans z0, (B4.cell hb').trans z1, (B4.cell hb').trans z2, (B4.cell hb').trans z3, (B4.cell hb').trans z4⟩))
                      (first | (go_at_call 12; ((with_reducible refine cs.mono ?_); rintro e w4 ⟨rfl, hb4⟩; have B4 := bel_trans hBd hb4)))
                    go_wp2
                    go_roundw
                    case rel => exact ⟨_, k + 1, Q, rfl, by omega, rfl, by go_num, bel_trans hB B4, hnew⟩
                    case measure => simp [intOf]; omega
                  · have hnew : Hid (0 = R) := by show _ = _; rw [← hFk, He.out k (by omega)]
                    clear hR hFk
                    go_wp2
                    go_ret
                    exact ⟨one hnew.out, bel_trans hB2 hB⟩
                · have hv0 : (v == 0) = false := by simpa using hv
                  have hnew := Lib.hid hvR
                  clear hR hvR
                  by_cases hlt : k < n
                  · go_wp2
                    go_ret
                    exact ⟨one hnew.out, bel_trans hB2 hB⟩
                  · go_wp2
                    go_ret
                    exact ⟨one hnew.out, bel_trans hB2 hB⟩
          · have hv0 : (v == 0) = false := by simpa using hv
            have hnew := Lib.hid hvR
            clear hR hvR HV0
            by_cases hlt : k < kn
            · go_wp2
              refine wp_loop_rounds 1 ?_
              rw [rounds_succ]
              by_cases hl2 : 0 < n
              · have hl3 : (0 : Int) < (n : Int) := by omega
                go_wp2
                go_ret
                exact ⟨one hnew.out, bel_trans hB2 hB⟩
              · have hl3 : ¬ (0 : Int) < (n : Int) := by omega
                go_wp2
                go_ret
                exact ⟨one hnew.out, bel_trans hB2 hB⟩
            · go_wp2
              refine wp_loop_rounds 1 ?_
              rw [rounds_succ]
              by_cases hl2 : 0 < n
              · have hl3 : (0 : Int) < (n : Int) := by omega
                go_wp2
                go_ret
                exact ⟨one hnew.out, bel_trans hB2 hB⟩
              · have hl3 : ¬ (0 : Int) < (n : Int) := by omega
                go_wp2
                go_ret
                exact ⟨one hnew.out, bel_trans hB2 hB⟩
      · have HV0 := HV.out x2 (by rw [zero_lex, zero_lex]; unfold lex; rw [if_pos h2])
        have e2 : (x2 == 0) = false := by simpa using h2
        clear HV
        go_enter Try.func12, Try.ntmps12
        go_wp2_with (first
          | (go_at_call 38; (first | ((with_reducible refine (c0 _).mono ?_); rintro e w4 ⟨rfl, rfl⟩) | ((with_reducible refine (c3 _).mono ?_); rintro e w4 ⟨rfl, rfl⟩)))
          | (go_at_call 39; (first | ((with_reducible refine (c1 _).mono ?_); rintro e w4 ⟨rfl, rfl⟩) | ((with_reducible refine (c2 _).mono ?_); rintro e w4 ⟨rfl, rfl⟩))))
        clear c0 c1 c2 c3
        go_loopw [5, 6] (fun q i wr0 => ∃ (wr : World) (k : Nat) (v : Int), wr = wr0 ∧ k ≤ kn ∧ q = .int .i64 v ∧ i = .int .i64 k ∧ Below W2.heap.size W2 wr ∧ Hid ((v = 0 ∧ kn = kn' ∧ lex (G k) (lex x4 (F 0)) = R) ∨ (v ≠ 0 ∧ v = R))) (fun q i _ => kn - (intOf i).toNat)
        case atStart => exact ⟨_, 0, _, rfl, by omega, rfl, rfl, Below.refl _ _, HV0⟩
        case round =>
          obtain ⟨wr, k, v, rfl, hk, rfl, rfl, hB, hR⟩ := hrel
          obtain ⟨_, _, _, sr, sr4⟩ := (CBox.b HS.out hB).five
          obtain ⟨_, _, _, tr, tr4⟩ := (CBox.b HT2.out hB).five
          dsimp only at sr tr
          rcases hR.out with ⟨rfl, rfl, hFk⟩ | ⟨hv, hvR⟩
          · by_cases hlt : k < kn
            · obtain ⟨bb, o, t, A, M, Cc, rfl, hb, y0, y1, y2, y3, hx, hok⟩ := (TsW.b hKt.out hB).at hlt
              obtain ⟨bb', o', u, A', M', Cc', rfl, hb', z0, z1, z2, z3, hx', hok'⟩ := (TsW.b hKu.out hB).at hlt
              have hs1 := Gst.out k t u hx hx'
              have hk0 : 0 ≤ (k : Int) := by omega
              have hk1 : (k : Int) < (kn : Int) := by omega
              have hBd : Below wr.heap.size wr wr.drew := (Below.refl _ _).drew
              have cs := refTm_any t u A M Cc A' M' Cc' wr.drew (ArW.b hok hBd) (ArW.b hok' hBd)
              have lS := Blk.lt (CBox.b HS.out hB)
              have lT := Blk.lt (CBox.b HT2.out hB)
              generalize cmpT t u = Q at *
              have hnew : Hid ((Q = 0 ∧ kn = kn ∧ lex (G (k + 1)) (lex x4 (F 0)) = R) ∨ (Q ≠ 0 ∧ Q = R)) := by
                rw [hs1, lex_assoc] at hFk
                by_cases hQ : Q = 0
                · exact .inl ⟨hQ, rfl, by rw [hQ, zero_lex] at hFk; exact hFk⟩
                · exact .inr ⟨hQ, by unfold lex at hFk; rw [if_pos hQ] at hFk; exact hFk⟩
              clear hx hx' hok hok' hTt hTu hKt hKu Hst Gst HK hR hs1 hFk HV0
              generalize opT t = op2 at *
              generalize nameT t = nm2 at *
              generalize numT t = nu2 at *
              generalize opT u = op3 at *
              generalize nameT u = nm3 at *
              generalize numT u = nu3 at *
              go_wp2_with fail
              go_region_held3 (fun w' => w'.cell? ⟨w.heap.size, 3, none⟩ = some (.slice (some ⟨bb, o, none⟩) kn kc) ∧ w'.cell? ⟨w.heap.size + 1, 3, none⟩ = some (.slice (some ⟨bb', o', none⟩) kn kc') ∧ w'.cell? ⟨bb, o + k * 4, none⟩ = some (.int .i64 op2) ∧ w'.cell? ⟨bb, o + k * 4 + 1, none⟩ = some (.string nm2) ∧ w'.cell? ⟨bb, o + k * 4 + 1 + 1, none⟩ = some (.int .i64 nu2) ∧ w'.cell? ⟨bb, o + k * 4 + 1 + 1 + 1, none⟩ = some (.slice A M Cc) ∧ w'.cell? ⟨bb', o' + k * 4, none⟩ = some (.int .i64 op3) ∧ w'.cell? ⟨bb', o' + k * 4 + 1, none⟩ = some (.string nm3) ∧ w'.cell? ⟨bb', o' + k * 4 + 1 + 1, none⟩ = some (.int .i64 nu3) ∧ w'.cell? ⟨bb', o' + k * 4 + 1 + 1 + 1, none⟩ = some (.slice A' M' Cc'))
                (first | go_keep | (exact ⟨(B4.cell lS).trans sr, (B4.cell lT).trans tr, (B4.cell hb).trans y0, (B4.cell hb).trans y1, (B4.cell hb).trans y2, (B4.cell hb).trans y3, (B4.cell hb').trans z0, (B4.cell hb').trans z1, (B4.cell hb').trans z2, (B4.cell hb').trans z3⟩))
                (first | (go_at_call 40; ((with_reducible refine cs.mono ?_); rintro e w4 ⟨rfl, hb4⟩; have B4 := bel_trans hBd hb4)))
              go_wp2
              go_roundw
              case rel => exact ⟨_, k + 1, Q, rfl, by omega, rfl, by go_num, bel_trans hB B4, hnew⟩
              case measure => simp [intOf]; omega
            · rw [Ge.out k (by omega), zero_lex] at hFk
              have HW0 : Hid ((x4 = 0 ∧ n = n' ∧ F 0 = R) ∨ (x4 ≠ 0 ∧ x4 = R)) := by
                by_cases h4 : x4 = 0
                · exact .inl ⟨h4, HN.out h4, by rw [h4, zero_lex] at hFk; exact hFk⟩
                · exact .inr ⟨h4, by unfold lex at hFk; rw [if_pos h4] at hFk; exact hFk⟩
              clear hR hFk HV0
              go_wp2_with (go_at_call 38; ((with_reducible refine (c4 _).mono ?_); rintro e w4 ⟨rfl, rfl⟩))
              go_loopw [5, 7] (fun q i wr0 => ∃ (wr : World) (k : Nat) (v : Int), wr = wr0 ∧ k ≤ n ∧ q = .int .i64 v ∧ i = .int .i64 k ∧ Below W2.heap.size W2 wr ∧ Hid ((v = 0 ∧ n = n' ∧ F k = R) ∨ (v ≠ 0 ∧ v = R))) (fun q i _ => n - (intOf i).toNat)
              case atStart => exact ⟨_, 0, _, rfl, by omega, rfl, rfl, hB, HW0⟩
              case round =>
                obtain ⟨wr, k, v, rfl, hk, rfl, rfl, hB, hR⟩ := hrel
                obtain ⟨_, _, _, _, sr⟩ := (CBox.b HS.out hB).five
                obtain ⟨_, _, _, _, tr⟩ := (CBox.b HT2.out hB).five
                rcases hR.out with ⟨rfl, rfl, hFk⟩ | ⟨hv, hvR⟩
                · by_cases hlt : k < n
                  · obtain ⟨bb, o, t, xk, A, M, Cc, rfl, hb, y0, y1, y2, y3, y4, hx, hok⟩ := (CsW.b hTt.out hB).at hlt
                    obtain ⟨bb', o', u, xk', A', M', Cc', rfl, hb', z0, z1, z2, z3, z4, hx', hok'⟩ := (CsW.b hTu.out hB).at hlt
                    have hs1 := Hst.out k t u hx hx'
                    have hk0 : 0 ≤ (k : Int) := by omega
                    have hk1 : (k : Int) < (n : Int) := by omega
                    have hBd : Below wr.heap.size wr wr.drew := (Below.refl _ _).drew
                    have cs := HK.out k t hx u xk A M Cc xk' A' M' Cc' wr.drew (ArWC.b hok hBd) (ArWC.b hok' hBd)
                    have lS := Blk.lt (CBox.b HS.out hB)
                    have lT := Blk.lt (CBox.b HT2.out hB)
                    generalize cmpC t u = Q at *
                    have hnew : Hid ((Q = 0 ∧ n = n ∧ F (k + 1) = R) ∨ (Q ≠ 0 ∧ Q = R)) := by
                      rw [hs1] at hFk
                      by_cases hQ : Q = 0
                      · exact .inl ⟨hQ, rfl, by rw [hQ, zero_lex] at hFk; exact hFk⟩
                      · exact .inr ⟨hQ, by unfold lex at hFk; rw [if_pos hQ] at hFk; exact hFk⟩
                    clear hx hx' hok hok' hTt hTu Hst HK hR hs1 hFk HW0
                    generalize opC t = op2 at *
                    generalize nmC t = nm2 at *
                    generalize soC t = nu2 at *
                    generalize opC u = op3 at *
                    generalize nmC u = nm3 at *
                    generalize soC u = nu3 at *
                    go_wp2_with fail
                    go_region_held3 (fun w' => w'.cell? ⟨w.heap.size, 4, none⟩ = some (.slice (some ⟨bb, o, none⟩) n c) ∧ w'.cell? ⟨w.heap.size + 1, 4, none⟩ = some (.slice (some ⟨bb', o', none⟩) n c') ∧ w'.cell? ⟨bb, o + k * 5, none⟩ = some (.int .i64 op2) ∧ w'.cell? ⟨bb, o + k * 5 + 1, none⟩ = some (.string nm2) ∧ w'.cell? ⟨bb, o + k * 5 + 1 + 1, none⟩ = some (.string nu2) ∧ w'.cell? ⟨bb, o + k * 5 + 1 + 1 + 1, none⟩ = some (.slice xk.a xk.n xk.c) ∧ w'.cell? ⟨bb, o + k * 5 + 1 + 1 + 1 + 1, none⟩ = some (.slice A M Cc) ∧ w'.cell? ⟨bb', o' + k * 5, none⟩ = some (.int .i64 op3) ∧ w'.cell? ⟨bb', o' + k * 5 + 1, none⟩ = some (.string nm3) ∧ w'.cell? ⟨bb', o' + k * 5 + 1 + 1, none⟩ = some (.string nu3) ∧ w'.cell? ⟨bb', o' + k * 5 + 1 + 1 + 1, none⟩ = some (.slice xk'.a xk'.n xk'.c) ∧ w'.cell? ⟨bb', o' + k * 5 + 1 + 1 + 1 + 1, none⟩ = some (.slice A' M' Cc'))
                      (first | go_keep | (exact ⟨(B4.cell lS).trans sr, (B4.cell lT).trans tr, (B4.cell hb).trans y0, (B4.cell hb).trans y1, (B4.cell hb).trans y2, (B4.cell hb).trans y3, (B4.cell hb).trans y4, (B4.cell hb').trans z0, (B4.cell hb').trans z1, (B4.cell hb').trans z2, (B4.cell hb').trans z3, (B4.cell hb').trans z4⟩))
                      (first | (go_at_call 12; ((with_reducible refine cs.mono ?_); rintro e w4 ⟨rfl, hb4⟩; have B4 := bel_trans hBd hb4)))
                    go_wp2
                    go_roundw
                    case rel => exact ⟨_, k + 1, Q, rfl, by omega, rfl, by go_num, bel_trans hB B4, hnew⟩
                    case measure => simp [intOf]; omega
                  · have hnew : Hid (0 = R) := by show _ = _; rw [← hFk, He.out k (by omega)]
                    clear hR hFk
                    go_wp2
                    go_ret
                    exact ⟨one hnew.out, bel_trans hB2 hB⟩
                · have hv0 : (v == 0) = false := by simpa using hv
                  have hnew := Lib.hid hvR
                  clear hR hvR
                  by_cases hlt : k < n
                  · go_wp2
                    go_ret
                    exact ⟨one hnew.out, bel_trans hB2 hB⟩
                  · go_wp2
                    go_ret
                    exact ⟨one hnew.out, bel_trans hB2 hB⟩
          · have hv0 : (v == 0) = false := by simpa using hv
            have hnew := Lib.hid hvR
            clear hR hvR HV0
            by_cases hlt : k < kn
            · go_wp2
              refine wp_loop_rounds 1 ?_
              rw [rounds_succ]
              by_cases hl2 : 0 < n
              · have hl3 : (0 : Int) < (n : Int) := by omega
                go_wp2
                go_ret
                exact ⟨one hnew.out, bel_trans hB2 hB⟩
              · have hl3 : ¬ (0 : Int) < (n : Int) := by omega
                go_wp2
                go_ret
                exact ⟨one hnew.out, bel_trans hB2 hB⟩
            · go_wp2
              refine wp_loop_rounds 1 ?_
              rw [rounds_succ]
              by_cases hl2 : 0 < n
              · have hl3 : (0 : Int) < (n : Int) := by omega
                go_wp2
                go_ret
                exact ⟨one hnew.out, bel_trans hB2 hB⟩
              · have hl3 : ¬ (0 : Int) < (n : Int) := by omega
                go_wp2
                go_ret
                exact ⟨one hnew.out, bel_trans hB2 hB⟩
    · by_cases h12 : op = 12
      · subst h12
        obtain rfl : x1 = 0 := by rw [← Hx1.out]; rfl
        by_cases h2 : x2 = 0
        · subst h2
          have HV0 := HV.out x3 (by rw [zero_lex, zero_lex, zero_lex])
          clear HV
          go_enter Try.func12, Try.ntmps12
          go_wp2_with (first
            | (go_at_call 38; (first | ((with_reducible refine (c0 _).mono ?_); rintro e w4 ⟨rfl, rfl⟩) | ((with_reducible refine (c3 _).mono ?_); rintro e w4 ⟨rfl, rfl⟩)))
            | (go_at_call 39; (first | ((with_reducible refine (c1 _).mono ?_); rintro e w4 ⟨rfl, rfl⟩) | ((with_reducible refine (c2 _).mono ?_); rintro e w4 ⟨rfl, rfl⟩))))
          clear c0 c1 c2 c3
          go_loopw [5, 6] (fun q i wr0 => ∃ (wr : World) (k : Nat) (v : Int), wr = wr0 ∧ k ≤ kn ∧ q = .int .i64 v ∧ i = .int .i64 k ∧ Below W2.heap.size W2 wr ∧ Hid ((v = 0 ∧ kn = kn' ∧ lex (G k) (lex x4 (F 0)) = R) ∨ (v ≠ 0 ∧ v = R))) (fun q i _ => kn - (intOf i).toNat)
          case atStart => exact ⟨_, 0, _, rfl, by omega, rfl, rfl, Below.refl _ _, HV0⟩
          case round =>
            obtain ⟨wr, k, v, rfl, hk, rfl, rfl, hB, hR⟩ := hrel
            obtain ⟨_, _, _, sr, sr4⟩ := (CBox.b HS.out hB).five
            obtain ⟨_, _, _, tr, tr4⟩ := (CBox.b HT2.out hB).five
            dsimp only at sr tr
            rcases hR.out with ⟨rfl, rfl, hFk⟩ | ⟨hv, hvR⟩
            · by_cases hlt : k < kn
              · obtain ⟨bb, o, t, A, M, Cc, rfl, hb, y0, y1, y2, y3, hx, hok⟩ := (TsW.b hKt.out hB).at hlt
                obtain ⟨bb', o', u, A', M', Cc', rfl, hb', z0, z1, z2, z3, hx', hok'⟩ := (TsW.b hKu.out hB).at hlt
                have hs1 := Gst.out k t u hx hx'
                have hk0 : 0 ≤ (k : Int) := by omega
                have hk1 : (k : Int) < (kn : Int) := by omega
                have hBd : Below wr.heap.size wr wr.drew := (Below.refl _ _).drew
                have cs := refTm_any t u A M Cc A' M' Cc' wr.drew (ArW.b hok hBd) (ArW.b hok' hBd)
                have lS := Blk.lt (CBox.b HS.out hB)
                have lT := Blk.lt (CBox.b HT2.out hB)
                generalize cmpT t u = Q at *
                have hnew : Hid ((Q = 0 ∧ kn = kn ∧ lex (G (k + 1)) (lex x4 (F 0)) = R) ∨ (Q ≠ 0 ∧ Q = R)) := by
                  rw [hs1, lex_assoc] at hFk
                  by_cases hQ : Q = 0
                  · exact .inl ⟨hQ, rfl, by rw [hQ, zero_lex] at hFk; exact hFk⟩
                  · exact .inr ⟨hQ, by unfold lex at hFk; rw [if_pos hQ] at hFk; exact hFk⟩
                clear hx hx' hok hok' hTt hTu hKt hKu Hst Gst HK hR hs1 hFk HV0
                generalize opT t = op2 at *
                generalize nameT t = nm2 at *
                generalize numT t = nu2 at *
                generalize opT u = op3 at *
                generalize nameT u = nm3 at *
                generalize numT u = nu3 at *
                go_wp2_with fail
                go_region_held3 (fun w' => w'.cell? ⟨w.heap.size, 3, none⟩ = some (.slice (some ⟨bb, o, none⟩) kn kc) ∧ w'.cell? ⟨w.heap.size + 1, 3, none⟩ = some (.slice (some ⟨bb', o', none⟩) kn kc') ∧ w'.cell? ⟨bb, o + k * 4, none⟩ = some (.int .i64 op2) ∧ w'.cell? ⟨bb, o + k * 4 + 1, none⟩ = some (.string nm2) ∧ w'.cell? ⟨bb, o + k * 4 + 1 + 1, none⟩ = some (.int .i64 nu2) ∧ w'.cell? ⟨bb, o + k * 4 + 1 + 1 + 1, none⟩ = some (.slice A M Cc) ∧ w'.cell? ⟨bb', o' + k * 4, none⟩ = some (.int .i64 op3) ∧ w'.cell? ⟨bb', o' + k * 4 + 1, none⟩ = some (.string nm3) ∧ w'.cell? ⟨bb', o' + k * 4 + 1 + 1, none⟩ = some (.int .i64 nu3) ∧ w'.cell? ⟨bb', o' + k * 4 + 1 + 1 + 1, none⟩ = some (.slice A' M' Cc'))
                  (first | go_keep | (exact ⟨(B4.cell lS).trans sr, (B4.cell lT).trans tr, (B4.cell hb).trans y0, (B4.cell hb).trans y1, (B4.cell hb).trans y2, (B4.cell hb).trans y3, (B4.cell hb').trans z0, (B4.cell hb').trans z1, (B4.cell hb').trans z2, (B4.cell hb').trans z3⟩))
                  (first | (go_at_call 40; ((with_reducible refine cs.mono ?_); rintro e w4 ⟨rfl, hb4⟩; have B4 := bel_trans hBd hb4)))
                go_wp2
                go_roundw
                case rel => exact ⟨_, k + 1, Q, rfl, by omega, rfl, by go_num, bel_trans hB B4, hnew⟩
                case measure => simp [intOf]; omega
              · rw [Ge.out k (by omega), zero_lex] at hFk
                have HW0 : Hid ((x4 = 0 ∧ n = n' ∧ F 0 = R) ∨ (x4 ≠ 0 ∧ x4 = R)) := by
                  by_cases h4 : x4 = 0
                  · exact .inl ⟨h4, HN.out h4, by rw [h4, zero_lex] at hFk; exact hFk⟩
                  · exact .inr ⟨h4, by unfold lex at hFk; rw [if_pos h4] at hFk; exact hFk⟩
                clear hR hFk HV0
                go_wp2_with (go_at_call 38; ((with_reducible refine (c4 _).mono ?_); rintro e w4 ⟨rfl, rfl⟩))
                go_loopw [5, 7] (fun q i wr0 => ∃ (wr : World) (k : Nat) (v : Int), wr = wr0 ∧ k ≤ n ∧ q = .int .i64 v ∧ i = .int .i64 k ∧ Below W2.heap.size W2 wr ∧ Hid ((v = 0 ∧ n = n' ∧ F k = R) ∨ (v ≠ 0 ∧ v = R))) (fun q i _ => n - (intOf i).toNat)
                case atStart => exact ⟨_, 0, _, rfl, by omega, rfl, rfl, hB, HW0⟩
                case round =>
                  obtain ⟨wr, k, v, rfl, hk, rfl, rfl, hB, hR⟩ := hrel
                  obtain ⟨_, _, _, _, sr⟩ := (CBox.b HS.out hB).five
                  obtain ⟨_, _, _, _, tr⟩ := (CBox.b HT2.out hB).five
                  rcases hR.out with ⟨rfl, rfl, hFk⟩ | ⟨hv, hvR⟩
                  · by_cases hlt : k < n
                    · obtain ⟨bb, o, t, xk, A, M, Cc, rfl, hb, y0, y1, y2, y3, y4, hx, hok⟩ := (CsW.b hTt.out hB).at hlt
                      obtain ⟨bb', o', u, xk', A', M', Cc', rfl, hb', z0, z1, z2, z3, z4, hx', hok'⟩ := (CsW.b hTu.out hB).at hlt
                      have hs1 := Hst.out k t u hx hx'
                      have hk0 : 0 ≤ (k : Int) := by omega
                      have hk1 : (k : Int) < (n : Int) := by omega
                      have hBd : Below wr.heap.size wr wr.drew := (Below.refl _ _).drew
                      have cs := HK.out k t hx u xk A M Cc xk' A' M' Cc' wr.drew (ArWC.b hok hBd) (ArWC.b hok' hBd)
                      have lS := Blk.lt (CBox.b HS.out hB)
                      have lT := Blk.lt (CBox.b HT2.out hB)
                      generalize cmpC t u = Q at *
                      have hnew : Hid ((Q = 0 ∧ n = n ∧ F (k + 1) = R) ∨ (Q ≠ 0 ∧ Q = R)) := by
                        rw [hs1] at hFk
                        by_cases hQ : Q = 0
                        · exact .inl ⟨hQ, rfl, by rw [hQ, zero_lex] at hFk; exact hFk⟩
                        · exact .inr ⟨hQ, by unfold lex at hFk; rw [if_pos hQ] at hFk; exact hFk⟩
                      clear hx hx' hok hok' hTt hTu Hst HK hR hs1 hFk HW0
                      generalize opC t = op2 at *
                      generalize nmC t = nm2 at *
                      generalize soC t = nu2 at *
                      generalize opC u = op3 at *
                      generalize nmC u = nm3 at *
                      generalize soC u = nu3 at *
                      go_wp2_with fail
                      go_region_held3 (fun w' => w'.cell? ⟨w.heap.size, 4, none⟩ = some (.slice (some ⟨bb, o, none⟩) n c) ∧ w'.cell? ⟨w.heap.size + 1, 4, none⟩ = some (.slice (some ⟨bb', o', none⟩) n c') ∧ w'.cell? ⟨bb, o + k * 5, none⟩ = some (.int .i64 op2) ∧ w'.cell? ⟨bb, o + k * 5 + 1, none⟩ = some (.string nm2) ∧ w'.cell? ⟨bb, o + k * 5 + 1 + 1, none⟩ = some (.string nu2) ∧ w'.cell? ⟨bb, o + k * 5 + 1 + 1 + 1, none⟩ = some (.slice xk.a xk.n xk.c) ∧ w'.cell? ⟨bb, o + k * 5 + 1 + 1 + 1 + 1, none⟩ = some (.slice A M Cc) ∧ w'.cell? ⟨bb', o' + k * 5, none⟩ = some (.int .i64 op3) ∧ w'.cell? ⟨bb', o' + k * 5 + 1, none⟩ = some (.string nm3) ∧ w'.cell? ⟨bb', o' + k * 5 + 1 + 1, none⟩ = some (.string nu3) ∧ w'.cell? ⟨bb', o' + k * 5 + 1 + 1 + 1, none⟩ = some (.slice xk'.a xk'.n xk'.c) ∧ w'.cell? ⟨bb', o' + k * 5 + 1 + 1 + 1 + 1, none⟩ = some (.slice A' M' Cc'))
                        (first | go_keep | (exact ⟨(B4.cell lS).trans sr, (B4.cell lT).trans tr, (B4.cell hb).trans y0, (B4.cell hb).trans y1, (B4.cell hb).trans y2, (B4.cell hb).trans y3, (B4.cell hb).trans y4, (B4.cell hb').trans z0, (B4.cell hb').trans z1, (B4.cell hb').trans z2, (B4.cell hb').trans z3, (B4.cell hb').trans z4⟩))
                        (first | (go_at_call 12; ((with_reducible refine cs.mono ?_); rintro e w4 ⟨rfl, hb4⟩; have B4 := bel_trans hBd hb4)))
                      go_wp2
                      go_roundw
                      case rel => exact ⟨_, k + 1, Q, rfl, by omega, rfl, by go_num, bel_trans hB B4, hnew⟩
                      case measure => simp [intOf]; omega
                    · have hnew : Hid (0 = R) := by show _ = _; rw [← hFk, He.out k (by omega)]
                      clear hR hFk
                      go_wp2
                      go_ret
                      exact ⟨one hnew.out, bel_trans hB2 hB⟩
                  · have hv0 : (v == 0) = false := by simpa using hv
                    have hnew := Lib.hid hvR
                    clear hR hvR
                    by_cases hlt : k < n
                    · go_wp2
                      go_ret
                      exact ⟨one hnew.out, bel_trans hB2 hB⟩
                    · go_wp2
                      go_ret
                      exact ⟨one hnew.out, bel_trans hB2 hB⟩
            · have hv0 : (v == 0) = false := by simpa using hv
              have hnew := Lib.hid hvR
              clear hR hvR HV0
              by_cases hlt : k < kn
              · go_wp2
                refine wp_loop_rounds 1 ?_
                rw [rounds_succ]
                by_cases hl2 : 0 < n
                · have hl3 : (0 : Int) < (n : Int) := by omega
                  go_wp2
                  go_ret
                  exact ⟨one hnew.out, bel_trans hB2 hB⟩
                · have hl3 : ¬ (0 : Int) < (n : Int) := by omega
                  go_wp2
                  go_ret
                  exact ⟨one hnew.out, bel_trans hB2 hB⟩
              · go_wp2
                refine wp_loop_rounds 1 ?_
                rw [rounds_succ]
                by_cases hl2 : 0 < n
                · have hl3 : (0 : Int) < (n : Int) := by omega
                  go_wp2
                  go_ret
                  exact ⟨one hnew.out, bel_trans hB2 hB⟩
                · have hl3 : ¬ (0 : Int) < (n : Int) := by omega
                  go_wp2
                  go_ret
                  exact ⟨one hnew.out, bel_trans hB2 hB⟩
        · have HV0 := HV.out x2 (by rw [zero_lex, zero_lex]; unfold lex; rw [if_pos h2])
          have e2 : (x2 == 0) = false := by simpa using h2
          clear HV
          go_enter Try.func12, Try.ntmps12
          go_wp2_with (first
            | (go_at_call 38; (first | ((with_reducible refine (c0 _).mono ?_); rintro e w4 ⟨rfl, rfl⟩) | ((with_reducible refine (c3 _).mono ?_); rintro e w4 ⟨rfl, rfl⟩)))
            | (go_at_call 39; (first | ((with_reducible refine (c1 _).mono ?_); rintro e w4 ⟨rfl, rfl⟩) | ((with_reducible refine (c2 _).mono ?_); rintro e w4 ⟨rfl, rfl⟩))))
          clear c0 c1 c2 c3
          go_loopw [5, 6] (fun q i wr0 => ∃ (wr : World) (k : Nat) (v : Int), wr = wr0 ∧ k ≤ kn ∧ q = .int .i64 v ∧ i = .int .i64 k ∧ Below W2.heap.size W2 wr ∧ Hid ((v = 0 ∧ kn = kn' ∧ lex (G k) (lex x4 (F 0)) = R) ∨ (v ≠ 0 ∧ v = R))) (fun q i _ => kn - (intOf i).toNat)
          case atStart => exact ⟨_, 0, _, rfl, by omega, rfl, rfl, Below.refl _ _, HV0⟩
          case round =>
            obtain ⟨wr, k, v, rfl, hk, rfl, rfl, hB, hR⟩ := hrel
            obtain ⟨_, _, _, sr, sr4⟩ := (CBox.b HS.out hB).five
            obtain ⟨_, _, _, tr, tr4⟩ := (CBox.b HT2.out hB).five
            dsimp only at sr tr
            rcases hR.out with ⟨rfl, rfl, hFk⟩ | ⟨hv, hvR⟩
            · by_cases hlt : k < kn
              · obtain ⟨bb, o, t, A, M, Cc, rfl, hb, y0, y1, y2, y3, hx, hok⟩ := (TsW.b hKt.out hB).at hlt
                obtain ⟨bb', o', u, A', M', Cc', rfl, hb', z0, z1, z2, z3, hx', hok'⟩ := (TsW.b hKu.out hB).at hlt
                have hs1 := Gst.out k t u hx hx'
                have hk0 : 0 ≤ (k : Int) := by omega
                have hk1 : (k : Int) < (kn : Int) := by omega
                have hBd : Below wr.heap.size wr wr.drew := (Below.refl _ _).drew
                have cs := refTm_any t u A M Cc A' M' Cc' wr.drew (ArW.b hok hBd) (ArW.b hok' hBd)
                have lS := Blk.lt (CBox.b HS.out hB)
                have lT := Blk.lt (CBox.b HT2.out hB)
                generalize cmpT t u = Q at *
                have hnew : Hid ((Q = 0 ∧ kn = kn ∧ lex (G (k + 1)) (lex x4 (F 0)) = R) ∨ (Q ≠ 0 ∧ Q = R)) := by
                  rw [hs1, lex_assoc] at hFk
                  by_cases hQ : Q = 0
                  · exact .inl ⟨hQ, rfl, by rw [hQ, zero_lex] at hFk; exact hFk⟩
                  · exact .inr ⟨hQ, by unfold lex at hFk; rw [if_pos hQ] at hFk; exact hFk⟩
                clear hx hx' hok hok' hTt hTu hKt hKu Hst Gst HK hR hs1 hFk HV0
                generalize opT t = op2 at *
                generalize nameT t = nm2 at *
                generalize numT t = nu2 at *
                generalize opT u = op3 at *
                generalize nameT u = nm3 at *
                generalize numT u = nu3 at *
                go_wp2_with fail
                go_region_held3 (fun w' => w'.cell? ⟨w.heap.size, 3, none⟩ = some (.slice (some ⟨bb, o, none⟩) kn kc) ∧ w'.cell? ⟨w.heap.size + 1, 3, none⟩ = some (.slice (some ⟨bb', o', none⟩) kn kc') ∧ w'.cell? ⟨bb, o + k * 4, none⟩ = some (.int .i64 op2) ∧ w'.cell? ⟨bb, o + k * 4 + 1, none⟩ = some (.string nm2) ∧ w'.cell? ⟨bb, o + k * 4 + 1 + 1, none⟩ = some (.int .i64 nu2) ∧ w'.cell? ⟨bb, o + k * 4 + 1 + 1 + 1, none⟩ = some (.slice A M Cc) ∧ w'.cell? ⟨bb', o' + k * 4, none⟩ = some (.int .i64 op3) ∧ w'.cell? ⟨bb', o' + k * 4 + 1, none⟩ = some (.string nm3) ∧ w'.cell? ⟨bb', o' + k * 4 + 1 + 1, none⟩ = some (.int .i64 nu3) ∧ w'.cell? ⟨bb', o' + k * 4 + 1 + 1 + 1, none⟩ = some (.slice A' M' Cc'))
                  (first | go_keep | (exact ⟨(B4.cell lS).trans sr, (B4.cell lT).trans tr, (B4.cell hb).trans y0, (B4.cell hb).trans y1, (B4.cell hb).trans y2, (B4.cell hb).trans y3, (B4.cell hb').trans z0, (B4.cell hb').trans z1, (B4.cell hb').trans z2, (B4.cell hb').trans z3⟩))
                  (first | (go_at_call 40; ((with_reducible refine cs.mono ?_); rintro e w4 ⟨rfl, hb4⟩; have B4 := bel_trans hBd hb4)))
                go_wp2
                go_roundw
                case rel => exact ⟨_, k + 1, Q, rfl, by omega, rfl, by go_num, bel_trans hB B4, hnew⟩
                case measure => simp [intOf]; omega
              · rw [Ge.out k (by omega), zero_lex] at hFk
                have HW0 : Hid ((x4 = 0 ∧ n = n' ∧ F 0 = R) ∨ (x4 ≠ 0 ∧ x4 = R)) := by
                  by_cases h4 : x4 = 0
                  · exact .inl ⟨h4, HN.out h4, by rw [h4, zero_lex] at hFk; exact hFk⟩
                  · exact .inr ⟨h4, by unfold lex at hFk; rw [if_pos h4] at hFk; exact hFk⟩
                clear hR hFk HV0
                go_wp2_with (go_at_call 38; ((with_reducible refine (c4 _).mono ?_); rintro e w4 ⟨rfl, rfl⟩))
                go_loopw [5, 7] (fun q i wr0 => ∃ (wr : World) (k : Nat) (v : Int), wr = wr0 ∧ k ≤ n ∧ q = .int .i64 v ∧ i = .int .i64 k ∧ Below W2.heap.size W2 wr ∧ Hid ((v = 0 ∧ n = n' ∧ F k = R) ∨ (v ≠ 0 ∧ v = R))) (fun q i _ => n - (intOf i).toNat)
                case atStart => exact ⟨_, 0, _, rfl, by omega, rfl, rfl, hB, HW0⟩
                case round =>
                  obtain ⟨wr, k, v, rfl, hk, rfl, rfl, hB, hR⟩ := hrel
                  obtain ⟨_, _, _, _, sr⟩ := (CBox.b HS.out hB).five
                  obtain ⟨_, _, _, _, tr⟩ := (CBox.b HT2.out hB).five
                  rcases hR.out with ⟨rfl, rfl, hFk⟩ | ⟨hv, hvR⟩
                  · by_cases hlt : k < n
                    · obtain ⟨bb, o, t, xk, A, M, Cc, rfl, hb, y0, y1, y2, y3, y4, hx, hok⟩ := (CsW.b hTt.out hB).at hlt
                      obtain ⟨bb', o', u, xk', A', M', Cc', rfl, hb', z0, z1, z2, z3, z4, hx', hok'⟩ := (CsW.b hTu.out hB).at hlt
                      have hs1 := Hst.out k t u hx hx'
                      have hk0 : 0 ≤ (k : Int) := by omega
                      have hk1 : (k : Int) < (n : Int) := by omega
                      have hBd : Below wr.heap.size wr wr.drew := (Below.refl _ _).drew
                      have cs := HK.out k t hx u xk A M Cc xk' A' M' Cc' wr.drew (ArWC.b hok hBd) (ArWC.b hok' hBd)
                      have lS := Blk.lt (CBox.b HS.out hB)
                      have lT := Blk.lt (CBox.b HT2.out hB)
                      generalize cmpC t u = Q at *
                      have hnew : Hid ((Q = 0 ∧ n = n ∧ F (k + 1) = R) ∨ (Q ≠ 0 ∧ Q = R)) := by
                        rw [hs1] at hFk
                        by_cases hQ : Q = 0
                        · exact .inl ⟨hQ, rfl, by rw [hQ, zero_lex] at hFk; exact hFk⟩
                        · exact .inr ⟨hQ, by unfold lex at hFk; rw [if_pos hQ] at hFk; exact hFk⟩
                      clear hx hx' hok hok' hTt hTu Hst HK hR hs1 hFk HW0
                      generalize opC t = op2 at *
                      generalize nmC t = nm2 at *
                      generalize soC t = nu2 at *
                      generalize opC u = op3 at *
                      generalize nmC u = nm3 at *
                      generalize soC u = nu3 at *
                      go_wp2_with fail
                      go_region_held3 (fun w' => w'.cell? ⟨w.heap.size, 4, none⟩ = some (.slice (some ⟨bb, o, none⟩) n c) ∧ w'.cell? ⟨w.heap.size + 1, 4, none⟩ = some (.slice (some ⟨bb', o', none⟩) n c') ∧ w'.cell? ⟨bb, o + k * 5, none⟩ = some (.int .i64 op2) ∧ w'.cell? ⟨bb, o + k * 5 + 1, none⟩ = some (.string nm2) ∧ w'.cell? ⟨bb, o + k * 5 + 1 + 1, none⟩ = some (.string nu2) ∧ w'.cell? ⟨bb, o + k * 5 + 1 + 1 + 1, none⟩ = some (.slice xk.a xk.n xk.c) ∧ w'.cell? ⟨bb, o + k * 5 + 1 + 1 + 1 + 1, none⟩ = some (.slice A M Cc) ∧ w'.cell? ⟨bb', o' + k * 5, none⟩ = some (.int .i64 op3) ∧ w'.cell? ⟨bb', o' + k * 5 + 1, none⟩ = some (.string nm3) ∧ w'.cell? ⟨bb', o' + k * 5 + 1 + 1, none⟩ = some (.string nu3) ∧ w'.cell? ⟨bb', o' + k * 5 + 1 + 1 + 1, none⟩ = some (.slice xk'.a xk'.n xk'.c) ∧ w'.cell? ⟨bb', o' + k * 5 + 1 + 1 + 1 + 1, none⟩ = some (.slice A' M' Cc'))
                        (first | go_keep | (exact ⟨(B4.cell lS).trans sr, (B4.cell lT).trans tr, (B4.cell hb).trans y0, (B4.cell hb).trans y1, (B4.cell hb).trans y2, (B4.cell hb).trans y3, (B4.cell hb).trans y4, (B4.cell hb').trans z0, (B4.cell hb').trans z1, (B4.cell hb').trans z2, (B4.cell hb').trans z3, (B4.cell hb').trans z4⟩))
                        (first | (go_at_call 12; ((with_reducible refine cs.mono ?_); rintro e w4 ⟨rfl, hb4⟩; have B4 := bel_trans hBd hb4)))
                      go_wp2
                      go_roundw
                      case rel => exact ⟨_, k + 1, Q, rfl, by omega, rfl, by go_num, bel_trans hB B4, hnew⟩
                      case measure => simp [intOf]; omega
                    · have hnew : Hid (0 = R) := by show _ = _; rw [← hFk, He.out k (by omega)]
                      clear hR hFk
                      go_wp2
                      go_ret
                      exact ⟨one hnew.out, bel_trans hB2 hB⟩
                  · have hv0 : (v == 0) = false := by simpa using hv
                    have hnew := Lib.hid hvR
                    clear hR hvR
                    by_cases hlt : k < n
                    · go_wp2
                      go_ret
                      exact ⟨one hnew.out, bel_trans hB2 hB⟩
                    · go_wp2
                      go_ret
                      exact ⟨one hnew.out, bel_trans hB2 hB⟩
            · have hv0 : (v == 0) = false := by simpa using hv
              have hnew := Lib.hid hvR
              clear hR hvR HV0
              by_cases hlt : k < kn
              · go_wp2
                refine wp_loop_rounds 1 ?_
                rw [rounds_succ]
                by_cases hl2 : 0 < n
                · have hl3 : (0 : Int) < (n : Int) := by omega
                  go_wp2
                  go_ret
                  exact ⟨one hnew.out, bel_trans hB2 hB⟩
                · have hl3 : ¬ (0 : Int) < (n : Int) := by omega
                  go_wp2
                  go_ret
                  exact ⟨one hnew.out, bel_trans hB2 hB⟩
              · go_wp2
                refine wp_loop_rounds 1 ?_
                rw [rounds_succ]
                by_cases hl2 : 0 < n
                · have hl3 : (0 : Int) < (n : Int) := by omega
                  go_wp2
                  go_ret
                  exact ⟨one hnew.out, bel_trans hB2 hB⟩
                · have hl3 : ¬ (0 : Int) < (n : Int) := by omega
                  go_wp2
                  go_ret
                  exact ⟨one hnew.out, bel_trans hB2 hB⟩
      · have e11 : (op != 11) = true := by simpa using h11
        have e12 : (op != 12) = true := by simpa using h12
        have hx1 : cmpN nm nm' = x1 := by rw [← Hx1.out]; unfold nmCmp; rw [if_neg (by simpa using ⟨h11, h12⟩)]
        rw [hx1] at c1
        clear hx1
        by_cases h1 : x1 = 0
        · subst h1
          by_cases h2 : x2 = 0
          · subst h2
            have HV0 := HV.out x3 (by rw [zero_lex, zero_lex, zero_lex])
            clear HV
            go_enter Try.func12, Try.ntmps12
            go_wp2_with (first
              | (go_at_call 38; (first | ((with_reducible refine (c0 _).mono ?_); rintro e w4 ⟨rfl, rfl⟩) | ((with_reducible refine (c3 _).mono ?_); rintro e w4 ⟨rfl, rfl⟩)))
              | (go_at_call 39; (first | ((with_reducible refine (c1 _).mono ?_); rintro e w4 ⟨rfl, rfl⟩) | ((with_reducible refine (c2 _).mono ?_); rintro e w4 ⟨rfl, rfl⟩))))
            clear c0 c1 c2 c3
            go_loopw [5, 6] (fun q i wr0 => ∃ (wr : World) (k : Nat) (v : Int), wr = wr0 ∧ k ≤ kn ∧ q = .int .i64 v ∧ i = .int .i64 k ∧ Below W2.heap.size W2 wr ∧ Hid ((v = 0 ∧ kn = kn' ∧ lex (G k) (lex x4 (F 0)) = R) ∨ (v ≠ 0 ∧ v = R))) (fun q i _ => kn - (intOf i).toNat)
            case atStart => exact ⟨_, 0, _, rfl, by omega, rfl, rfl, Below.refl _ _, HV0⟩
            case round =>
              obtain ⟨wr, k, v, rfl, hk, rfl, rfl, hB, hR⟩ := hrel
              obtain ⟨_, _, _, sr, sr4⟩ := (CBox.b HS.out hB).five
              obtain ⟨_, _, _, tr, tr4⟩ := (CBox.b HT2.out hB).five
              dsimp only at sr tr
              rcases hR.out with ⟨rfl, rfl, hFk⟩ | ⟨hv, hvR⟩
              · by_cases hlt : k < kn
                · obtain ⟨bb, o, t, A, M, Cc, rfl, hb, y0, y1, y2, y3, hx, hok⟩ := (TsW.b hKt.out hB).at hlt
                  obtain ⟨bb', o', u, A', M', Cc', rfl, hb', z0, z1, z2, z3, hx', hok'⟩ := (TsW.b hKu.out hB).at hlt
                  have hs1 := Gst.out k t u hx hx'
                  have hk0 : 0 ≤ (k : Int) := by omega
                  have hk1 : (k : Int) < (kn : Int) := by omega
                  have hBd : Below wr.heap.size wr wr.drew := (Below.refl _ _).drew
                  have cs := refTm_any t u A M Cc A' M' Cc' wr.drew (ArW.b hok hBd) (ArW.b hok' hBd)
                  have lS := Blk.lt (CBox.b HS.out hB)
                  have lT := Blk.lt (CBox.b HT2.out hB)
                  generalize cmpT t u = Q at *
                  have hnew : Hid ((Q = 0 ∧ kn = kn ∧ lex (G (k + 1)) (lex x4 (F 0)) = R) ∨ (Q ≠ 0 ∧ Q = R)) := by
                    rw [hs1, lex_assoc] at hFk
                    by_cases hQ : Q = 0
                    · exact .inl ⟨hQ, rfl, by rw [hQ, zero_lex] at hFk; exact hFk⟩
                    · exact .inr ⟨hQ, by unfold lex at hFk; rw [if_pos hQ] at hFk; exact hFk⟩
                  clear hx hx' hok hok' hTt hTu hKt hKu Hst Gst HK hR hs1 hFk HV0
                  generalize opT t = op2 at *
                  generalize nameT t = nm2 at *
                  generalize numT t = nu2 at *
                  generalize opT u = op3 at *
                  generalize nameT u = nm3 at *
                  generalize numT u = nu3 at *
                  go_wp2_with fail
                  go_region_held3 (fun w' => w'.cell? ⟨w.heap.size, 3, none⟩ = some (.slice (some ⟨bb, o, none⟩) kn kc) ∧ w'.cell? ⟨w.heap.size + 1, 3, none⟩ = some (.slice (some ⟨bb', o', none⟩) kn kc') ∧ w'.cell? ⟨bb, o + k * 4, none⟩ = some (.int .i64 op2) ∧ w'.cell? ⟨bb, o + k * 4 + 1, none⟩ = some (.string nm2) ∧ w'.cell? ⟨bb, o + k * 4 + 1 + 1, none⟩ = some (.int .i64 nu2) ∧ w'.cell? ⟨bb, o + k * 4 + 1 + 1 + 1, none⟩ = some (.slice A M Cc) ∧ w'.cell? ⟨bb', o' + k * 4, none⟩ = some (.int .i64 op3) ∧ w'.cell? ⟨bb', o' + k * 4 + 1, none⟩ = some (.string nm3) ∧ w'.cell? ⟨bb', o' + k * 4 + 1 + 1, none⟩ = some (.int .i64 nu3) ∧ w'.cell? ⟨bb', o' + k * 4 + 1 + 1 + 1, none⟩ = some (.slice A' M' Cc'))
                    (first | go_keep | (exact ⟨(B4.cell lS).trans sr, (B4.cell lT).trans tr, (B4.cell hb).trans y0, (B4.cell hb).trans y1, (B4.cell hb).trans y2, (B4.cell hb).trans y3, (B4.cell hb').trans z0, (B4.cell hb').trans z1, (B4.cell hb').trans z2, (B4.cell hb').trans z3⟩))
                    (first | (go_at_call 40; ((with_reducible refine cs.mono ?_); rintro e w4 ⟨rfl, hb4⟩; have B4 := bel_trans hBd hb4)))
                  go_wp2
                  go_roundw
                  case rel => exact ⟨_, k + 1, Q, rfl, by omega, rfl, by go_num, bel_trans hB B4, hnew⟩
                  case measure => simp [intOf]; omega
                · rw [Ge.out k (by omega), zero_lex] at hFk
                  have HW0 : Hid ((x4 = 0 ∧ n = n' ∧ F 0 = R) ∨ (x4 ≠ 0 ∧ x4 = R)) := by
                    by_cases h4 : x4 = 0
                    · exact .inl ⟨h4, HN.out h4, by rw [h4, zero_lex] at hFk; exact hFk⟩
                    · exact .inr ⟨h4, by unfold lex at hFk; rw [if_pos h4] at hFk; exact hFk⟩
                  clear hR hFk HV0
                  go_wp2_with (go_at_call 38; ((with_reducible refine (c4 _).mono ?_); rintro e w4 ⟨rfl, rfl⟩))
                  go_loopw [5, 7] (fun q i wr0 => ∃ (wr : World) (k : Nat) (v : Int), wr = wr0 ∧ k ≤ n ∧ q = .int .i64 v ∧ i = .int .i64 k ∧ Below W2.heap.size W2 wr ∧ Hid ((v = 0 ∧ n = n' ∧ F k = R) ∨ (v ≠ 0 ∧ v = R))) (fun q i _ => n - (intOf i).toNat)
                  case atStart => exact ⟨_, 0, _, rfl, by omega, rfl, rfl, hB, HW0⟩
                  case round =>
                    obtain ⟨wr, k, v, rfl, hk, rfl, rfl, hB, hR⟩ := hrel
                    obtain ⟨_, _, _, _, sr⟩ := (CBox.b HS.out hB).five
                    obtain ⟨_, _, _, _, tr⟩ := (CBox.b HT2.out hB).five
                    rcases hR.out with ⟨rfl, rfl, hFk⟩ | ⟨hv, hvR⟩
                    · by_cases hlt : k < n
                      · obtain ⟨bb, o, t, xk, A, M, Cc, rfl, hb, y0, y1, y2, y3, y4, hx, hok⟩ := (CsW.b hTt.out hB).at hlt
                        obtain ⟨bb', o', u, xk', A', M', Cc', rfl, hb', z0, z1, z2, z3, z4, hx', hok'⟩ := (CsW.b hTu.out hB).at hlt
                        have hs1 := Hst.out k t u hx hx'
                        have hk0 : 0 ≤ (k : Int) := by omega
                        have hk1 : (k : Int) < (n : Int) := by omega
                        have hBd : Below wr.heap.size wr wr.drew := (Below.refl _ _).drew
                        have cs := HK.out k t hx u xk A M Cc xk' A' M' Cc' wr.drew (ArWC.b hok hBd) (ArWC.b hok' hBd)
                        have lS := Blk.lt (CBox.b HS.out hB)
                        have lT := Blk.lt (CBox.b HT2.out hB)
                        generalize cmpC t u = Q at *
                        have hnew : Hid ((Q = 0 ∧ n = n ∧ F (k + 1) = R) ∨ (Q ≠ 0 ∧ Q = R)) := by
                          rw [hs1] at hFk
                          by_cases hQ : Q = 0
                          · exact .inl ⟨hQ, rfl, by rw [hQ, zero_lex] at hFk; exact hFk⟩
                          · exact .inr ⟨hQ, by unfold lex at hFk; rw [if_pos hQ] at hFk; exact hFk⟩
                        clear hx hx' hok hok' hTt hTu Hst HK hR hs1 hFk HW0
                        generalize opC t = op2 at *
                        generalize nmC t = nm2 at *
                        generalize soC t = nu2 at *
                        generalize opC u = op3 at *
                        generalize nmC u = nm3 at *
                        generalize soC u = nu3 at *
                        go_wp2_with fail
                        go_region_held3 (fun w' => w'.cell? ⟨w.heap.size, 4, none⟩ = some (.slice (some ⟨bb, o, none⟩) n c) ∧ w'.cell? ⟨w.heap.size + 1, 4, none⟩ = some (.slice (some ⟨bb', o', none⟩) n c') ∧ w'.cell? ⟨bb, o + k * 5, none⟩ = some (.int .i64 op2) ∧ w'.cell? ⟨bb, o + k * 5 + 1, none⟩ = some (.string nm2) ∧ w'.cell? ⟨bb, o + k * 5 + 1 + 1, none⟩ = some (.string nu2) ∧ w'.cell? ⟨bb, o + k * 5 + 1 + 1 + 1, none⟩ = some (.slice xk.a xk.n xk.c) ∧ w'.cell? ⟨bb, o + k * 5 + 1 + 1 + 1 + 1, none⟩ = some (.slice A M Cc) ∧ w'.cell? ⟨bb', o' + k * 5, none⟩ = some (.int .i64 op3) ∧ w'.cell? ⟨bb', o' + k * 5 + 1, none⟩ = some (.string nm3) ∧ w'.cell? ⟨bb', o' + k * 5 + 1 + 1, none⟩ = some (.string nu3) ∧ w'.cell? ⟨bb', o' + k * 5 + 1 + 1 + 1, none⟩ = some (.slice xk'.a xk'.n xk'.c) ∧ w'.cell? ⟨bb', o' + k * 5 + 1 + 1 + 1 + 1, none⟩ = some (.slice A' M' Cc'))
                          (first | go_keep | (exact ⟨(B4.cell lS).trans sr, (B4.cell lT).trans tr, (B4.cell hb).trans y0, (B4.cell hb).trans y1, (B4.cell hb).trans y2, (B4.cell hb).trans y3, (B4.cell hb).trans y4, (B4.cell hb').trans z0, (B4.cell hb').trans z1, (B4.cell hb').trans z2, (B4.cell hb').trans z3, (B4.cell hb').trans z4⟩))
                          (first | (go_at_call 12; ((with_reducible refine cs.mono ?_); rintro e w4 ⟨rfl, hb4⟩; have B4 := bel_trans hBd hb4)))
                        go_wp2
                        go_roundw
                        case rel => exact ⟨_, k + 1, Q, rfl, by omega, rfl, by go_num, bel_trans hB B4, hnew⟩
                        case measure => simp [intOf]; omega
                      · have hnew : Hid (0 = R) := by show _ = _; rw [← hFk, He.out k (by omega)]
                        clear hR hFk
                        go_wp2
                        go_ret
                        exact ⟨one hnew.out, bel_trans hB2 hB⟩
                    · have hv0 : (v == 0) = false := by simpa using hv
                      have hnew := Lib.hid hvR
                      clear hR hvR
                      by_cases hlt : k < n
                      · go_wp2
                        go_ret
                        exact ⟨one hnew.out, bel_trans hB2 hB⟩
                      · go_wp2
                        go_ret
                        exact ⟨one hnew.out, bel_trans hB2 hB⟩
              · have hv0 : (v == 0) = false := by simpa using hv
                have hnew := Lib.hid hvR
                clear hR hvR HV0
                by_cases hlt : k < kn
                · go_wp2
                  refine wp_loop_rounds 1 ?_
                  rw [rounds_succ]
                  by_cases hl2 : 0 < n
                  · have hl3 : (0 : Int) < (n : Int) := by omega
                    go_wp2
                    go_ret
                    exact ⟨one hnew.out, bel_trans hB2 hB⟩
                  · have hl3 : ¬ (0 : Int) < (n : Int) := by omega
                    go_wp2
                    go_ret
                    exact ⟨one hnew.out, bel_trans hB2 hB⟩
                · go_wp2
                  refine wp_loop_rounds 1 ?_
                  rw [rounds_succ]
                  by_cases hl2 : 0 < n
                  · have hl3 : (0 : Int) < (n : Int) := by omega
                    go_wp2
                    go_ret
                    exact ⟨one hnew.out, bel_trans hB2 hB⟩
                  · have hl3 : ¬ (0 : Int) < (n : Int) := by omega
                    go_wp2
                    go_ret
                    exact ⟨one hnew.out, bel_trans hB2 hB⟩
          · have HV0 := HV.out x2 (by rw [zero_lex, zero_lex]; unfold lex; rw [if_pos h2])
            have e2 : (x2 == 0) = false := by simpa using h2
            clear HV
            go_enter Try.func12, Try.ntmps12
            go_wp2_with (first
              | (go_at_call 38; (first | ((with_reducible refine (c0 _).mono ?_); rintro e w4 ⟨rfl, rfl⟩) | ((with_reducible refine (c3 _).mono ?_); rintro e w4 ⟨rfl, rfl⟩)))
              | (go_at_call 39; (first | ((with_reducible refine (c1 _).mono ?_); rintro e w4 ⟨rfl, rfl⟩) | ((with_reducible refine (c2 _).mono ?_); rintro e w4 ⟨rfl, rfl⟩))))
            clear c0 c1 c2 c3
            go_loopw [5, 6] (fun q i wr0 => ∃ (wr : World) (k : Nat) (v : Int), wr = wr0 ∧ k ≤ kn ∧ q = .int .i64 v ∧ i = .int .i64 k ∧ Below W2.heap.size W2 wr ∧ Hid ((v = 0 ∧ kn = kn' ∧ lex (G k) (lex x4 (F 0)) = R) ∨ (v ≠ 0 ∧ v = R))) (fun q i _ => kn - (intOf i).toNat)
            case atStart => exact ⟨_, 0, _, rfl, by omega, rfl, rfl, Below.refl _ _, HV0⟩
            case round =>
              obtain ⟨wr, k, v, rfl, hk, rfl, rfl, hB, hR⟩ := hrel
              obtain ⟨_, _, _, sr, sr4⟩ := (CBox.b HS.out hB).five
              obtain ⟨_, _, _, tr, tr4⟩ := (CBox.b HT2.out hB).five
              dsimp only at sr tr
              rcases hR.out with ⟨rfl, rfl, hFk⟩ | ⟨hv, hvR⟩
              · by_cases hlt : k < kn
                · obtain ⟨bb, o, t, A, M, Cc, rfl, hb, y0, y1, y2, y3, hx, hok⟩ := (TsW.b hKt.out hB).at hlt
                  obtain ⟨bb', o', u, A', M', Cc', rfl, hb', z0, z1, z2, z3, hx', hok'⟩ := (TsW.b hKu.out hB).at hlt
                  have hs1 := Gst.out k t u hx hx'
                  have hk0 : 0 ≤ (k : Int) := by omega
                  have hk1 : (k : Int) < (kn : Int) := by omega
                  have hBd : Below wr.heap.size wr wr.drew := (Below.refl _ _).drew
                  have cs := refTm_any t u A M Cc A' M' Cc' wr.drew (ArW.b hok hBd) (ArW.b hok' hBd)
                  have lS := Blk.lt (CBox.b HS.out hB)
                  have lT := Blk.lt (CBox.b HT2.out hB)
                  generalize cmpT t u = Q at *
                  have hnew : Hid ((Q = 0 ∧ kn = kn ∧ lex (G (k + 1)) (lex x4 (F 0)) = R) ∨ (Q ≠ 0 ∧ Q = R)) := by
                    rw [hs1, lex_assoc] at hFk
                    by_cases hQ : Q = 0
                    · exact .inl ⟨hQ, rfl, by rw [hQ, zero_lex] at hFk; exact hFk⟩
                    · exact .inr ⟨hQ, by unfold lex at hFk; rw [if_pos hQ] at hFk; exact hFk⟩
                  clear hx hx' hok hok' hTt hTu hKt hKu Hst Gst HK hR hs1 hFk HV0
                  generalize opT t = op2 at *
                  generalize nameT t = nm2 at *
                  generalize numT t = nu2 at *
                  generalize opT u = op3 at *
                  generalize nameT u = nm3 at *
                  generalize numT u = nu3 at *
                  go_wp2_with fail
                  go_region_held3 (fun w' => w'.cell? ⟨w.heap.size, 3, none⟩ = some (.slice (some ⟨bb, o, none⟩) kn kc) ∧ w'.cell? ⟨w.heap.size + 1, 3, none⟩ = some (.slice (some ⟨bb', o', none⟩) kn kc') ∧ w'.cell? ⟨bb, o + k * 4, none⟩ = some (.int .i64 op2) ∧ w'.cell? ⟨bb, o + k * 4 + 1, none⟩ = some (.string nm2) ∧ w'.cell? ⟨bb, o + k * 4 + 1 + 1, none⟩ = some (.int .i64 nu2) ∧ w'.cell? ⟨bb, o + k * 4 + 1 + 1 + 1, none⟩ = some (.slice A M Cc) ∧ w'.cell? ⟨bb', o' + k * 4, none⟩ = some (.int .i64 op3) ∧ w'.cell? ⟨bb', o' + k * 4 + 1, none⟩ = some (.string nm3) ∧ w'.cell? ⟨bb', o' + k * 4 + 1 + 1, none⟩ = some (.int .i64 nu3) ∧ w'.cell? ⟨bb', o' + k * 4 + 1 + 1 + 1, none⟩ = some (.slice A' M' Cc'))
                    (first | go_keep | (exact ⟨(B4.cell lS).trans sr, (B4.cell lT).trans tr, (B4.cell hb).trans y0, (B4.cell hb).trans y1, (B4.cell hb).trans y2, (B4.cell hb).trans y3, (B4.cell hb').trans z0, (B4.cell hb').trans z1, (B4.cell hb').trans z2, (B4.cell hb').trans z3⟩))
                    (first | (go_at_call 40; ((with_reducible refine cs.mono ?_); rintro e w4 ⟨rfl, hb4⟩; have B4 := bel_trans hBd hb4)))
                  go_wp2
                  go_roundw
                  case rel => exact ⟨_, k + 1, Q, rfl, by omega, rfl, by go_num, bel_trans hB B4, hnew⟩
                  case measure => simp [intOf]; omega
                · rw [Ge.out k (by omega), zero_lex] at hFk
                  have HW0 : Hid ((x4 = 0 ∧ n = n' ∧ F 0 = R) ∨ (x4 ≠ 0 ∧ x4 = R)) := by
                    by_cases h4 : x4 = 0
                    · exact .inl ⟨h4, HN.out h4, by rw [h4, zero_lex] at hFk; exact hFk⟩
                    · exact .inr ⟨h4, by unfold lex at hFk; rw [if_pos h4] at hFk; exact hFk⟩
                  clear hR hFk HV0
                  go_wp2_with (go_at_call 38; ((with_reducible refine (c4 _).mono ?_); rintro e w4 ⟨rfl, rfl⟩))
                  go_loopw [5, 7] (fun q i wr0 => ∃ (wr : World) (k : Nat) (v : Int), wr = wr0 ∧ k ≤ n ∧ q = .int .i64 v ∧ i = .int .i64 k ∧ Below W2.heap.size W2 wr ∧ Hid ((v = 0 ∧ n = n' ∧ F k = R) ∨ (v ≠ 0 ∧ v = R))) (fun q i _ => n - (intOf i).toNat)
                  case atStart => exact ⟨_, 0, _, rfl, by omega, rfl, rfl, hB, HW0⟩
                  case round =>
                    obtain ⟨wr, k, v, rfl, hk, rfl, rfl, hB, hR⟩ := hrel
                    obtain ⟨_, _, _, _, sr⟩ := (CBox.b HS.out hB).five
                    obtain ⟨_, _, _, _, tr⟩ := (CBox.b HT2.out hB).five
                    rcases hR.out with ⟨rfl, rfl, hFk⟩ | ⟨hv, hvR⟩
                    · by_cases hlt : k < n
                      · obtain ⟨bb, o, t, xk, A, M, Cc, rfl, hb, y0, y1, y2, y3, y4, hx, hok⟩ := (CsW.b hTt.out hB).at hlt
                        obtain ⟨bb', o', u, xk', A', M', Cc', rfl, hb', z0, z1, z2, z3, z4, hx', hok'⟩ := (CsW.b hTu.out hB).at hlt
                        have hs1 := Hst.out k t u hx hx'
                        have hk0 : 0 ≤ (k : Int) := by omega
                        have hk1 : (k : Int) < (n : Int) := by omega
                        have hBd : Below wr.heap.size wr wr.drew := (Below.refl _ _).drew
                        have cs := HK.out k t hx u xk A M Cc xk' A' M' Cc' wr.drew (ArWC.b hok hBd) (ArWC.b hok' hBd)
                        have lS := Blk.lt (CBox.b HS.out hB)
                        have lT := Blk.lt (CBox.b HT2.out hB)
                        generalize cmpC t u = Q at *
                        have hnew : Hid ((Q = 0 ∧ n = n ∧ F (k + 1) = R) ∨ (Q ≠ 0 ∧ Q = R)) := by
                          rw [hs1] at hFk
                          by_cases hQ : Q = 0
                          · exact .inl ⟨hQ, rfl, by rw [hQ, zero_lex] at hFk; exact hFk⟩
                          · exact .inr ⟨hQ, by unfold lex at hFk; rw [if_pos hQ] at hFk; exact hFk⟩
                        clear hx hx' hok hok' hTt hTu Hst HK hR hs1 hFk HW0
                        generalize opC t = op2 at *
                        generalize nmC t = nm2 at *
                        generalize soC t = nu2 at *
                        generalize opC u = op3 at *
                        generalize nmC u = nm3 at *
                        generalize soC u = nu3 at *
                        go_wp2_with fail
                        go_region_held3 (fun w' => w'.cell? ⟨w.heap.size, 4, none⟩ = some (.slice (some ⟨bb, o, none⟩) n c) ∧ w'.cell? ⟨w.heap.size + 1, 4, none⟩ = some (.slice (some ⟨bb', o', none⟩) n c') ∧ w'.cell? ⟨bb, o + k * 5, none⟩ = some (.int .i64 op2) ∧ w'.cell? ⟨bb, o + k * 5 + 1, none⟩ = some (.string nm2) ∧ w'.cell? ⟨bb, o + k * 5 + 1 + 1, none⟩ = some (.string nu2) ∧ w'.cell? ⟨bb, o + k * 5 + 1 + 1 + 1, none⟩ = some (.slice xk.a xk.n xk.c) ∧ w'.cell? ⟨bb, o + k * 5 + 1 + 1 + 1 + 1, none⟩ = some (.slice A M Cc) ∧ w'.cell? ⟨bb', o' + k * 5, none⟩ = some (.int .i64 op3) ∧ w'.cell? ⟨bb', o' + k * 5 + 1, none⟩ = some (.string nm3) ∧ w'.cell? ⟨bb', o' + k * 5 + 1 + 1, none⟩ = some (.string nu3) ∧ w'.cell? ⟨bb', o' + k * 5 + 1 + 1 + 1, none⟩ = some (.slice xk'.a xk'.n xk'.c) ∧ w'.cell? ⟨bb', o' + k * 5 + 1 + 1 + 1 + 1, none⟩ = some (.slice A' M' Cc'))
                          (first | go_keep | (exact ⟨(B4.cell lS).trans sr, (B4.cell lT).trans tr, (B4.cell hb).trans y0, (B4.cell hb).trans y1, (B4.cell hb).trans y2, (B4.cell hb).trans y3, (B4.cell hb).trans y4, (B4.cell hb').trans z0, (B4.cell hb').trans z1, (B4.cell hb').trans z2, (B4.cell hb').trans z3, (B4.cell hb').trans z4⟩))
                          (first | (go_at_call 12; ((with_reducible refine cs.mono ?_); rintro e w4 ⟨rfl, hb4⟩; have B4 := bel_trans hBd hb4)))
                        go_wp2
                        go_roundw
                        case rel => exact ⟨_, k + 1, Q, rfl, by omega, rfl, by go_num, bel_trans hB B4, hnew⟩
                        case measure => simp [intOf]; omega
                      · have hnew : Hid (0 = R) := by show _ = _; rw [← hFk, He.out k (by omega)]
                        clear hR hFk
                        go_wp2
                        go_ret
                        exact ⟨one hnew.out, bel_trans hB2 hB⟩
                    · have hv0 : (v == 0) = false := by simpa using hv
                      have hnew := Lib.hid hvR
                      clear hR hvR
                      by_cases hlt : k < n
                      · go_wp2
                        go_ret
                        exact ⟨one hnew.out, bel_trans hB2 hB⟩
                      · go_wp2
                        go_ret
                        exact ⟨one hnew.out, bel_trans hB2 hB⟩
              · have hv0 : (v == 0) = false := by simpa using hv
                have hnew := Lib.hid hvR
                clear hR hvR HV0
                by_cases hlt : k < kn
                · go_wp2
                  refine wp_loop_rounds 1 ?_
                  rw [rounds_succ]
                  by_cases hl2 : 0 < n
                  · have hl3 : (0 : Int) < (n : Int) := by omega
                    go_wp2
                    go_ret
                    exact ⟨one hnew.out, bel_trans hB2 hB⟩
                  · have hl3 : ¬ (0 : Int) < (n : Int) := by omega
                    go_wp2
                    go_ret
                    exact ⟨one hnew.out, bel_trans hB2 hB⟩
                · go_wp2
                  refine wp_loop_rounds 1 ?_
                  rw [rounds_succ]
                  by_cases hl2 : 0 < n
                  · have hl3 : (0 : Int) < (n : Int) := by omega
                    go_wp2
                    go_ret
                    exact ⟨one hnew.out, bel_trans hB2 hB⟩
                  · have hl3 : ¬ (0 : Int) < (n : Int) := by omega
                    go_wp2
                    go_ret
                    exact ⟨one hnew.out, bel_trans hB2 hB⟩
        · have HV0 := HV.out x1 (by rw [zero_lex]; unfold lex; rw [if_pos h1])
          have e1 : (x1 == 0) = false := by simpa using h1
          clear HV
          go_enter Try.func12, Try.ntmps12
          go_wp2_with (first
            | (go_at_call 38; (first | ((with_reducible refine (c0 _).mono ?_); rintro e w4 ⟨rfl, rfl⟩) | ((with_reducible refine (c3 _).mono ?_); rintro e w4 ⟨rfl, rfl⟩)))
            | (go_at_call 39; (first | ((with_reducible refine (c1 _).mono ?_); rintro e w4 ⟨rfl, rfl⟩) | ((with_reducible refine (c2 _).mono ?_); rintro e w4 ⟨rfl, rfl⟩))))
          clear c0 c1 c2 c3
          go_loopw [5, 6] (fun q i wr0 => ∃ (wr : World) (k : Nat) (v : Int), wr = wr0 ∧ k ≤ kn ∧ q = .int .i64 v ∧ i = .int .i64 k ∧ Below W2.heap.size W2 wr ∧ Hid ((v = 0 ∧ kn = kn' ∧ lex (G k) (lex x4 (F 0)) = R) ∨ (v ≠ 0 ∧ v = R))) (fun q i _ => kn - (intOf i).toNat)
          case atStart => exact ⟨_, 0, _, rfl, by omega, rfl, rfl, Below.refl _ _, HV0⟩
          case round =>
            obtain ⟨wr, k, v, rfl, hk, rfl, rfl, hB, hR⟩ := hrel
            obtain ⟨_, _, _, sr, sr4⟩ := (CBox.b HS.out hB).five
            obtain ⟨_, _, _, tr, tr4⟩ := (CBox.b HT2.out hB).five
            dsimp only at sr tr
            rcases hR.out with ⟨rfl, rfl, hFk⟩ | ⟨hv, hvR⟩
            · by_cases hlt : k < kn
              · obtain ⟨bb, o, t, A, M, Cc, rfl, hb, y0, y1, y2, y3, hx, hok⟩ := (TsW.b hKt.out hB).at hlt
                obtain ⟨bb', o', u, A', M', Cc', rfl, hb', z0, z1, z2, z3, hx', hok'⟩ := (TsW.b hKu.out hB).at hlt
                have hs1 := Gst.out k t u hx hx'
                have hk0 : 0 ≤ (k : Int) := by omega
                have hk1 : (k : Int) < (kn : Int) := by omega
                have hBd : Below wr.heap.size wr wr.drew := (Below.refl _ _).drew
                have cs := refTm_any t u A M Cc A' M' Cc' wr.drew (ArW.b hok hBd) (ArW.b hok' hBd)
                have lS := Blk.lt (CBox.b HS.out hB)
                have lT := Blk.lt (CBox.b HT2.out hB)
                generalize cmpT t u = Q at *
                have hnew : Hid ((Q = 0 ∧ kn = kn ∧ lex (G (k + 1)) (lex x4 (F 0)) = R) ∨ (Q ≠ 0 ∧ Q = R)) := by
                  rw [hs1, lex_assoc] at hFk
                  by_cases hQ : Q = 0
                  · exact .inl ⟨hQ, rfl, by rw [hQ, zero_lex] at hFk; exact hFk⟩
                  · exact .inr ⟨hQ, by unfold lex at hFk; rw [if_pos hQ] at hFk; exact hFk⟩
                clear hx hx' hok hok' hTt hTu hKt hKu Hst Gst HK hR hs1 hFk HV0
                generalize opT t = op2 at *
                generalize nameT t = nm2 at *
                generalize numT t = nu2 at *
                generalize opT u = op3 at *
                generalize nameT u = nm3 at *
                generalize numT u = nu3 at *
                go_wp2_with fail
                go_region_held3 (fun w' => w'.cell? ⟨w.heap.size, 3, none⟩ = some (.slice (some ⟨bb, o, none⟩) kn kc) ∧ w'.cell? ⟨w.heap.size + 1, 3, none⟩ = some (.slice (some ⟨bb', o', none⟩) kn kc') ∧ w'.cell? ⟨bb, o + k * 4, none⟩ = some (.int .i64 op2) ∧ w'.cell? ⟨bb, o + k * 4 + 1, none⟩ = some (.string nm2) ∧ w'.cell? ⟨bb, o + k * 4 + 1 + 1, none⟩ = some (.int .i64 nu2) ∧ w'.cell? ⟨bb, o + k * 4 + 1 + 1 + 1, none⟩ = some (.slice A M Cc) ∧ w'.cell? ⟨bb', o' + k * 4, none⟩ = some (.int .i64 op3) ∧ w'.cell? ⟨bb', o' + k * 4 + 1, none⟩ = some (.string nm3) ∧ w'.cell? ⟨bb', o' + k * 4 + 1 + 1, none⟩ = some (.int .i64 nu3) ∧ w'.cell? ⟨bb', o' + k * 4 + 1 + 1 + 1, none⟩ = some (.slice A' M' Cc'))
                  (first | go_keep | (exact ⟨(B4.cell lS).trans sr, (B4.cell lT).trans tr, (B4.cell hb).trans y0, (B4.cell hb).trans y1, (B4.cell hb).trans y2, (B4.cell hb).trans y3, (B4.cell hb').trans z0, (B4.cell hb').trans z1, (B4.cell hb').trans z2, (B4.cell hb').trans z3⟩))
                  (first | (go_at_call 40; ((with_reducible refine cs.mono ?_); rintro e w4 ⟨rfl, hb4⟩; have B4 := bel_trans hBd hb4)))
                go_wp2
                go_roundw
                case rel => exact ⟨_, k + 1, Q, rfl, by omega, rfl, by go_num, bel_trans hB B4, hnew⟩
                case measure => simp [intOf]; omega
              · rw [Ge.out k (by omega), zero_lex] at hFk
                have HW0 : Hid ((x4 = 0 ∧ n = n' ∧ F 0 = R) ∨ (x4 ≠ 0 ∧ x4 = R)) := by
                  by_cases h4 : x4 = 0
                  · exact .inl ⟨h4, HN.out h4, by rw [h4, zero_lex] at hFk; exact hFk⟩
                  · exact .inr ⟨h4, by unfold lex at hFk; rw [if_pos h4] at hFk; exact hFk⟩
                clear hR hFk HV0
                go_wp2_with (go_at_call 38; ((with_reducible refine (c4 _).mono ?_); rintro e w4 ⟨rfl, rfl⟩))
                go_loopw [5, 7] (fun q i wr0 => ∃ (wr : World) (k : Nat) (v : Int), wr = wr0 ∧ k ≤ n ∧ q = .int .i64 v ∧ i = .int .i64 k ∧ Below W2.heap.size W2 wr ∧ Hid ((v = 0 ∧ n = n' ∧ F k = R) ∨ (v ≠ 0 ∧ v = R))) (fun q i _ => n - (intOf i).toNat)
                case atStart => exact ⟨_, 0, _, rfl, by omega, rfl, rfl, hB, HW0⟩
                case round =>
                  obtain ⟨wr, k, v, rfl, hk, rfl, rfl, hB, hR⟩ := hrel
                  obtain ⟨_, _, _, _, sr⟩ := (CBox.b HS.out hB).five
                  obtain ⟨_, _, _, _, tr⟩ := (CBox.b HT2.out hB).five
                  rcases hR.out with ⟨rfl, rfl, hFk⟩ | ⟨hv, hvR⟩
                  · by_cases hlt : k < n
                    · obtain ⟨bb, o, t, xk, A, M, Cc, rfl, hb, y0, y1, y2, y3, y4, hx, hok⟩ := (CsW.b hTt.out hB).at hlt
                      obtain ⟨bb', o', u, xk', A', M', Cc', rfl, hb', z0, z1, z2, z3, z4, hx', hok'⟩ := (CsW.b hTu.out hB).at hlt
                      have hs1 := Hst.out k t u hx hx'
                      have hk0 : 0 ≤ (k : Int) := by omega
                      have hk1 : (k : Int) < (n : Int) := by omega
                      have hBd : Below wr.heap.size wr wr.drew := (Below.refl _ _).drew
                      have cs := HK.out k t hx u xk A M Cc xk' A' M' Cc' wr.drew (ArWC.b hok hBd) (ArWC.b hok' hBd)
                      have lS := Blk.lt (CBox.b HS.out hB)
                      have lT := Blk.lt (CBox.b HT2.out hB)
                      generalize cmpC t u = Q at *
                      have hnew : Hid ((Q = 0 ∧ n = n ∧ F (k + 1) = R) ∨ (Q ≠ 0 ∧ Q = R)) := by
                        rw [hs1] at hFk
                        by_cases hQ : Q = 0
                        · exact .inl ⟨hQ, rfl, by rw [hQ, zero_lex] at hFk; exact hFk⟩
                        · exact .inr ⟨hQ, by unfold lex at hFk; rw [if_pos hQ] at hFk; exact hFk⟩
                      clear hx hx' hok hok' hTt hTu Hst HK hR hs1 hFk HW0
                      generalize opC t = op2 at *
                      generalize nmC t = nm2 at *
                      generalize soC t = nu2 at *
                      generalize opC u = op3 at *
                      generalize nmC u = nm3 at *
                      generalize soC u = nu3 at *
                      go_wp2_with fail
                      go_region_held3 (fun w' => w'.cell? ⟨w.heap.size, 4, none⟩ = some (.slice (some ⟨bb, o, none⟩) n c) ∧ w'.cell? ⟨w.heap.size + 1, 4, none⟩ = some (.slice (some ⟨bb', o', none⟩) n c') ∧ w'.cell? ⟨bb, o + k * 5, none⟩ = some (.int .i64 op2) ∧ w'.cell? ⟨bb, o + k * 5 + 1, none⟩ = some (.string nm2) ∧ w'.cell? ⟨bb, o + k * 5 + 1 + 1, none⟩ = some (.string nu2) ∧ w'.cell? ⟨bb, o + k * 5 + 1 + 1 + 1, none⟩ = some (.slice xk.a xk.n xk.c) ∧ w'.cell? ⟨bb, o + k * 5 + 1 + 1 + 1 + 1, none⟩ = some (.slice A M Cc) ∧ w'.cell? ⟨bb', o' + k * 5, none⟩ = some (.int .i64 op3) ∧ w'.cell? ⟨bb', o' + k * 5 + 1, none⟩ = some (.string nm3) ∧ w'.cell? ⟨bb', o' + k * 5 + 1 + 1, none⟩ = some (.string nu3) ∧ w'.cell? ⟨bb', o' + k * 5 + 1 + 1 + 1, none⟩ = some (.slice xk'.a xk'.n xk'.c) ∧ w'.cell? ⟨bb', o' + k * 5 + 1 + 1 + 1 + 1, none⟩ = some (.slice A' M' Cc'))
                        (first | go_keep | (exact ⟨(B4.cell lS).trans sr, (B4.cell lT).trans tr, (B4.cell hb).trans y0, (B4.cell hb).trans y1, (B4.cell hb).trans y2, (B4.cell hb).trans y3, (B4.cell hb).trans y4, (B4.cell hb').trans z0, (B4.cell hb').trans z1, (B4.cell hb').trans z2, (B4.cell hb').trans z3, (B4.cell hb').trans z4⟩))
                        (first | (go_at_call 12; ((with_reducible refine cs.mono ?_); rintro e w4 ⟨rfl, hb4⟩; have B4 := bel_trans hBd hb4)))
                      go_wp2
                      go_roundw
                      case rel => exact ⟨_, k + 1, Q, rfl, by omega, rfl, by go_num, bel_trans hB B4, hnew⟩
                      case measure => simp [intOf]; omega
                    · have hnew : Hid (0 = R) := by show _ = _; rw [← hFk, He.out k (by omega)]
                      clear hR hFk
                      go_wp2
                      go_ret
                      exact ⟨one hnew.out, bel_trans hB2 hB⟩
                  · have hv0 : (v == 0) = false := by simpa using hv
                    have hnew := Lib.hid hvR
                    clear hR hvR
                    by_cases hlt : k < n
                    · go_wp2
                      go_ret
                      exact ⟨one hnew.out, bel_trans hB2 hB⟩
                    · go_wp2
                      go_ret
                      exact ⟨one hnew.out, bel_trans hB2 hB⟩
            · have hv0 : (v == 0) = false := by simpa using hv
              have hnew := Lib.hid hvR
              clear hR hvR HV0
              by_cases hlt : k < kn
              · go_wp2
                refine wp_loop_rounds 1 ?_
                rw [rounds_succ]
                by_cases hl2 : 0 < n
                · have hl3 : (0 : Int) < (n : Int) := by omega
                  go_wp2
                  go_ret
                  exact ⟨one hnew.out, bel_trans hB2 hB⟩
                · have hl3 : ¬ (0 : Int) < (n : Int) := by omega
                  go_wp2
                  go_ret
                  exact ⟨one hnew.out, bel_trans hB2 hB⟩
              · go_wp2
                refine wp_loop_rounds 1 ?_
                rw [rounds_succ]
                by_cases hl2 : 0 < n
                · have hl3 : (0 : Int) < (n : Int) := by omega
                  go_wp2
                  go_ret
                  exact ⟨one hnew.out, bel_trans hB2 hB⟩
                · have hl3 : ¬ (0 : Int) < (n : Int) := by omega
                  go_wp2
                  go_ret
                  exact ⟨one hnew.out, bel_trans hB2 hB⟩
  · have HV0 := HV.out x0 (by unfold lex; rw [if_pos h0])
    have e0 : (x0 == 0) = false := by simpa using h0
    clear HV
    go_enter Try.func12, Try.ntmps12
    go_wp2_with (first
      | (go_at_call 38; (first | ((with_reducible refine (c0 _).mono ?_); rintro e w4 ⟨rfl, rfl⟩) | ((with_reducible refine (c3 _).mono ?_); rintro e w4 ⟨rfl, rfl⟩)))
      | (go_at_call 39; (first | ((with_reducible refine (c1 _).mono ?_); rintro e w4 ⟨rfl, rfl⟩) | ((with_reducible refine (c2 _).mono ?_); rintro e w4 ⟨rfl, rfl⟩))))
    clear c0 c1 c2 c3
    go_loopw [5, 6] (fun q i wr0 => ∃ (wr : World) (k : Nat) (v : Int), wr = wr0 ∧ k ≤ kn ∧ q = .int .i64 v ∧ i = .int .i64 k ∧ Below W2.heap.size W2 wr ∧ Hid ((v = 0 ∧ kn = kn' ∧ lex (G k) (lex x4 (F 0)) = R) ∨ (v ≠ 0 ∧ v = R))) (fun q i _ => kn - (intOf i).toNat)
    case atStart => exact ⟨_, 0, _, rfl, by omega, rfl, rfl, Below.refl _ _, HV0⟩
    case round =>
      obtain ⟨wr, k, v, rfl, hk, rfl, rfl, hB, hR⟩ := hrel
      obtain ⟨_, _, _, sr, sr4⟩ := (CBox.b HS.out hB).five
      obtain ⟨_, _, _, tr, tr4⟩ := (CBox.b HT2.out hB).five
      dsimp only at sr tr
      rcases hR.out with ⟨rfl, rfl, hFk⟩ | ⟨hv, hvR⟩
      · by_cases hlt : k < kn
        · obtain ⟨bb, o, t, A, M, Cc, rfl, hb, y0, y1, y2, y3, hx, hok⟩ := (TsW.b hKt.out hB).at hlt
          obtain ⟨bb', o', u, A', M', Cc', rfl, hb', z0, z1, z2, z3, hx', hok'⟩ := (TsW.b hKu.out hB).at hlt
          have hs1 := Gst.out k t u hx hx'
          have hk0 : 0 ≤ (k : Int) := by omega
          have hk1 : (k : Int) < (kn : Int) := by omega
          have hBd : Below wr.heap.size wr wr.drew := (Below.refl _ _).drew
          have cs := refTm_any t u A M Cc A' M' Cc' wr.drew (ArW.b hok hBd) (ArW.b hok' hBd)
          have lS := Blk.lt (CBox.b HS.out hB)
          have lT := Blk.lt (CBox.b HT2.out hB)
          generalize cmpT t u = Q at *
          have hnew : Hid ((Q = 0 ∧ kn = kn ∧ lex (G (k + 1)) (lex x4 (F 0)) = R) ∨ (Q ≠ 0 ∧ Q = R)) := by
            rw [hs1, lex_assoc] at hFk
            by_cases hQ : Q = 0
            · exact .inl ⟨hQ, rfl, by rw [hQ, zero_lex] at hFk; exact hFk⟩
            · exact .inr ⟨hQ, by unfold lex at hFk; rw [if_pos hQ] at hFk; exact hFk⟩
          clear hx hx' hok hok' hTt hTu hKt hKu Hst Gst HK hR hs1 hFk HV0
          generalize opT t = op2 at *
          generalize nameT t = nm2 at *
          generalize numT t = nu2 at *
          generalize opT u = op3 at *
          generalize nameT u = nm3 at *
          generalize numT u = nu3 at *
          go_wp2_with fail
          go_region_held3 (fun w' => w'.cell? ⟨w.heap.size, 3, none⟩ = some (.slice (some ⟨bb, o, none⟩) kn kc) ∧ w'.cell? ⟨w.heap.size + 1, 3, none⟩ = some (.slice (some ⟨bb', o', none⟩) kn kc') ∧ w'.cell? ⟨bb, o + k * 4, none⟩ = some (.int .i64 op2) ∧ w'.cell? ⟨bb, o + k * 4 + 1, none⟩ = some (.string nm2) ∧ w'.cell? ⟨bb, o + k * 4 + 1 + 1, none⟩ = some (.int .i64 nu2) ∧ w'.cell? ⟨bb, o + k * 4 + 1 + 1 + 1, none⟩ = some (.slice A M Cc) ∧ w'.cell? ⟨bb', o' + k * 4, none⟩ = some (.int .i64 op3) ∧ w'.cell? ⟨bb', o' + k * 4 + 1, none⟩ = some (.string nm3) ∧ w'.cell? ⟨bb', o' + k * 4 + 1 + 1, none⟩ = some (.int .i64 nu3) ∧ w'.cell? ⟨bb', o' + k * 4 + 1 + 1 + 1, none⟩ = some (.slice A' M' Cc'))
            (first | go_keep | (exact ⟨(B4.cell lS).trans sr, (B4.cell lT).trans tr, (B4.cell hb).trans y0, (B4.cell hb).trans y1, (B4.cell hb).trans y2, (B4.cell hb).trans y3, (B4.cell hb').trans z0, (B4.cell hb').trans z1, (B4.cell hb').trans z2, (B4.cell hb').trans z3⟩))
            (first | (go_at_call 40; ((with_reducible refine cs.mono ?_); rintro e w4 ⟨rfl, hb4⟩; have B4 := bel_trans hBd hb4)))
          go_wp2
          go_roundw
          case rel => exact ⟨_, k + 1, Q, rfl, by omega, rfl, by go_num, bel_trans hB B4, hnew⟩
          case measure => simp [intOf]; omega
        · rw [Ge.out k (by omega), zero_lex] at hFk
          have HW0 : Hid ((x4 = 0 ∧ n = n' ∧ F 0 = R) ∨ (x4 ≠ 0 ∧ x4 = R)) := by
            by_cases h4 : x4 = 0
            · exact .inl ⟨h4, HN.out h4, by rw [h4, zero_lex] at hFk; exact hFk⟩
            · exact .inr ⟨h4, by unfold lex at hFk; rw [if_pos h4] at hFk; exact hFk⟩
          clear hR hFk HV0
          go_wp2_with (go_at_call 38; ((with_reducible refine (c4 _).mono ?_); rintro e w4 ⟨rfl, rfl⟩))
          go_loopw [5, 7] (fun q i wr0 => ∃ (wr : World) (k : Nat) (v : Int), wr = wr0 ∧ k ≤ n ∧ q = .int .i64 v ∧ i = .int .i64 k ∧ Below W2.heap.size W2 wr ∧ Hid ((v = 0 ∧ n = n' ∧ F k = R) ∨ (v ≠ 0 ∧ v = R))) (fun q i _ => n - (intOf i).toNat)
          case atStart => exact ⟨_, 0, _, rfl, by omega, rfl, rfl, hB, HW0⟩
          case round =>
            obtain ⟨wr, k, v, rfl, hk, rfl, rfl, hB, hR⟩ := hrel
            obtain ⟨_, _, _, _, sr⟩ := (CBox.b HS.out hB).five
            obtain ⟨_, _, _, _, tr⟩ := (CBox.b HT2.out hB).five
            rcases hR.out with ⟨rfl, rfl, hFk⟩ | ⟨hv, hvR⟩
            · by_cases hlt : k < n
              · obtain ⟨bb, o, t, xk, A, M, Cc, rfl, hb, y0, y1, y2, y3, y4, hx, hok⟩ := (CsW.b hTt.out hB).at hlt
                obtain ⟨bb', o', u, xk', A', M', Cc', rfl, hb', z0, z1, z2, z3, z4, hx', hok'⟩ := (CsW.b hTu.out hB).at hlt
                have hs1 := Hst.out k t u hx hx'
                have hk0 : 0 ≤ (k : Int) := by omega
                have hk1 : (k : Int) < (n : Int) := by omega
                have hBd : Below wr.heap.size wr wr.drew := (Below.refl _ _).drew
                have cs := HK.out k t hx u xk A M Cc xk' A' M' Cc' wr.drew (ArWC.b hok hBd) (ArWC.b hok' hBd)
                have lS := Blk.lt (CBox.b HS.out hB)
                have lT := Blk.lt (CBox.b HT2.out hB)
                generalize cmpC t u = Q at *
                have hnew : Hid ((Q = 0 ∧ n = n ∧ F (k + 1) = R) ∨ (Q ≠ 0 ∧ Q = R)) := by
                  rw [hs1] at hFk
                  by_cases hQ : Q = 0
                  · exact .inl ⟨hQ, rfl, by rw [hQ, zero_lex] at hFk; exact hFk⟩
                  · exact .inr ⟨hQ, by unfold lex at hFk; rw [if_pos hQ] at hFk; exact hFk⟩
                clear hx hx' hok hok' hTt hTu Hst HK hR hs1 hFk HW0
                generalize opC t = op2 at *
                generalize nmC t = nm2 at *
                generalize soC t = nu2 at *
                generalize opC u = op3 at *
                generalize nmC u = nm3 at *
                generalize soC u = nu3 at *
                go_wp2_with fail
                go_region_held3 (fun w' => w'.cell? ⟨w.heap.size, 4, none⟩ = some (.slice (some ⟨bb, o, none⟩) n c) ∧ w'.cell? ⟨w.heap.size + 1, 4, none⟩ = some (.slice (some ⟨bb', o', none⟩) n c') ∧ w'.cell? ⟨bb, o + k * 5, none⟩ = some (.int .i64 op2) ∧ w'.cell? ⟨bb, o + k * 5 + 1, none⟩ = some (.string nm2) ∧ w'.cell? ⟨bb, o + k * 5 + 1 + 1, none⟩ = some (.string nu2) ∧ w'.cell? ⟨bb, o + k * 5 + 1 + 1 + 1, none⟩ = some (.slice xk.a xk.n xk.c) ∧ w'.cell? ⟨bb, o + k * 5 + 1 + 1 + 1 + 1, none⟩ = some (.slice A M Cc) ∧ w'.cell? ⟨bb', o' + k * 5, none⟩ = some (.int .i64 op3) ∧ w'.cell? ⟨bb', o' + k * 5 + 1, none⟩ = some (.string nm3) ∧ w'.cell? ⟨bb', o' + k * 5 + 1 + 1, none⟩ = some (.string nu3) ∧ w'.cell? ⟨bb', o' + k * 5 + 1 + 1 + 1, none⟩ = some (.slice xk'.a xk'.n xk'.c) ∧ w'.cell? ⟨bb', o' + k * 5 + 1 + 1 + 1 + 1, none⟩ = some (.slice A' M' Cc'))
                  (first | go_keep | (exact ⟨(B4.cell lS).trans sr, (B4.cell lT).trans tr, (B4.cell hb).trans y0, (B4.cell hb).trans y1, (B4.cell hb).trans y2, (B4.cell hb).trans y3, (B4.cell hb).trans y4, (B4.cell hb').trans z0, (B4.cell hb').trans z1, (B4.cell hb').trans z2, (B4.cell hb').trans z3, (B4.cell hb').trans z4⟩))
                  (first | (go_at_call 12; ((with_reducible refine cs.mono ?_); rintro e w4 ⟨rfl, hb4⟩; have B4 := bel_trans hBd hb4)))
                go_wp2
                go_roundw
                case rel => exact ⟨_, k + 1, Q, rfl, by omega, rfl, by go_num, bel_trans hB B4, hnew⟩
                case measure => simp [intOf]; omega
              · have hnew : Hid (0 = R) := by show _ = _; rw [← hFk, He.out k (by omega)]
                clear hR hFk
                go_wp2
                go_ret
                exact ⟨one hnew.out, bel_trans hB2 hB⟩
            · have hv0 : (v == 0) = false := by simpa using hv
              have hnew := Lib.hid hvR
              clear hR hvR
              by_cases hlt : k < n
              · go_wp2
                go_ret
                exact ⟨one hnew.out, bel_trans hB2 hB⟩
              · go_wp2
                go_ret
                exact ⟨one hnew.out, bel_trans hB2 hB⟩
      · have hv0 : (v == 0) = false := by simpa using hv
        have hnew := Lib.hid hvR
        clear hR hvR HV0
        by_cases hlt : k < kn
        · go_wp2
          refine wp_loop_rounds 1 ?_
          rw [rounds_succ]
          by_cases hl2 : 0 < n
          · have hl3 : (0 : Int) < (n : Int) := by omega
            go_wp2
            go_ret
            exact ⟨one hnew.out, bel_trans hB2 hB⟩
          · have hl3 : ¬ (0 : Int) < (n : Int) := by omega
            go_wp2
            go_ret
            exact ⟨one hnew.out, bel_trans hB2 hB⟩
        · go_wp2
          refine wp_loop_rounds 1 ?_
          rw [rounds_succ]
          by_cases hl2 : 0 < n
          · have hl3 : (0 : Int) < (n : Int) := by omega
            go_wp2
            go_ret
            exact ⟨one hnew.out, bel_trans hB2 hB⟩
          · have hl3 : ¬ (0 : Int) < (n : Int) := by omega
            go_wp2
            go_ret
            exact ⟨one hnew.out, bel_trans hB2 hB⟩
theorem refCl_any (t : Cl) : RefClOk t := Cl.ind refCl_step t
set_option maxHeartbeats 1000000 in
theorem refSame_any (t u : Cl) (k : SS) (a : Option Addr) (n c : Nat) (k' : SS) (a' : Option Addr) (n' c' : Nat) (w : World) (hA : ArWC w t k a n c) (hA' : ArWC w u k' a' n' c') :
    Calls Try.prog 10 #[.agg #[.int .i64 (opC t), .string (nmC t), .string (soC t), .slice k.a k.n k.c, .slice a n c], .agg #[.int .i64 (opC u), .string (nmC u), .string (soC u), .slice k'.a k'.n k'.c, .slice a' n' c']] w fun e w' => e = .returned (.bool (eqC t u)) ∧ Below w.heap.size w w' := by
  obtain ⟨W2, hW2, hB2, hs2, S2, T2⟩ := cbox2 w (opC t) (nmC t) (soC t) k a n c (opC u) (nmC u) (soC u) k' a' n' c'
  have cC := Claim_any t u k a n c k' a' n' c' W2 (ArWC.b hA hB2) (ArWC.b hA' hB2)
  obtain ⟨s0, s1, s2, s3, s4⟩ := S2.five
  obtain ⟨t0, t1, t2, t3, t4⟩ := T2.five
  clear hA hA' S2 T2
  generalize eqC t u = R at *
  generalize opC t = op at *
  generalize nmC t = nm at *
  generalize soC t = so at *
  generalize opC u = op' at *
  generalize nmC u = nm' at *
  generalize soC u = so' at *
  go_enter Try.func10, Try.ntmps10
  go_wp2_with (go_at_call 30; ((with_reducible refine cC.mono ?_); rintro e w3 ⟨rfl, hb3⟩))
  go_ret
  exact ⟨rfl, bel_trans hB2 hb3⟩
end Go.Proofs.Ytgjjhonopindlaa.C
