/-
  What is proved: what the document's comparison of two terms returns, as layer 8 has it.
-/
import Derived.Test.YtgjjhonopindlaaTrmB
import Derived.Deep.RegionHeld3
namespace Go.Proofs.Ytgjjhonopindlaa.T
open Go.RowKit L
set_option linter.unusedVariables false
set_option linter.unusedSimpArgs false

theorem number8_any (x y : Int) (w : World) : Calls Try.prog 38 #[.int .i64 x, .int .i64 y] w fun e w' => e = .returned (.int .i64 (cmpI x y)) ∧ w = w' := by
  by_cases h1 : x < y
  · have hc : cmpI x y = -1 := by unfold cmpI; rw [if_pos h1]
    rw [hc]
    go_enter Try.func38, Try.ntmps38
    go_wp2
    go_ret
    exact ⟨rfl, rfl⟩
  · by_cases h2 : y < x
    · have hc : cmpI x y = 1 := by unfold cmpI; rw [if_neg h1, if_pos h2]
      rw [hc]
      go_enter Try.func38, Try.ntmps38
      go_wp2
      go_ret
      exact ⟨rfl, rfl⟩
    · have hc : cmpI x y = 0 := by unfold cmpI; rw [if_neg h1, if_neg h2]
      rw [hc]
      go_enter Try.func38, Try.ntmps38
      go_wp2
      go_ret
      exact ⟨rfl, rfl⟩
theorem text8_any (x y : ByteArray) (w : World) : Calls Try.prog 39 #[.string x, .string y] w fun e w' => e = .returned (.int .i64 (cmpN x y)) ∧ w = w' := by
  have h1 : Go.Op.bytesLess x.toList y.toList = decide (cmpN x y = -1) := less_yes
  have h2 : Go.Op.bytesLess y.toList x.toList = decide (cmpN x y = 1) := more_yes
  have h3 : (x.toList == y.toList) = decide (cmpN x y = 0) := same_yes
  rcases linN.rng x y with h | h | h
  all_goals
    rw [h] at h1 h2 h3
    rw [h]
    clear h
    simp only [decide_true, decide_false, reduceCtorEq] at h1 h2 h3
    go_enter Try.func39, Try.ntmps39
    go_wp2
    go_ret
    exact ⟨rfl, rfl⟩
/-- the comparison, at this term (layer 8's) -/
def RefTmOk (t : Tm) : Prop := ∀ (u : Tm) (a : Option Addr) (n c : Nat) (a' : Option Addr) (n' c' : Nat) (w : World), ArW w t a n c → ArW w u a' n' c' →
  Calls Try.prog 40 #[.agg #[.int .i64 (opT t), .string (nameT t), .int .i64 (numT t), .slice a n c], .agg #[.int .i64 (opT u), .string (nameT u), .int .i64 (numT u), .slice a' n' c']] w fun e w' => e = .returned (.int .i64 (cmpT t u)) ∧ Below w.heap.size w w'
set_option maxRecDepth 100000 in
set_option maxHeartbeats 8000000 in
theorem refTm_step (t : Tm) (hok : ∀ x ∈ argsT t, RefTmOk x) : RefTmOk t := by
  intro u a n c a' n' c' w hA hA'
  obtain ⟨W2, hW2, hB2, hs2, S2, T2⟩ := box2 w (opT t) (nameT t) (numT t) a n c (opT u) (nameT u) (numT u) a' n' c'
  have hn : (argsT t).length = n := (ArW.args hA).1.symm
  have hn' : (argsT u).length = n' := (ArW.args hA').1.symm
  have hTt := Lib.hid (TsW.b (ArW.args hA) hB2)
  have hTu := Lib.hid (TsW.b (ArW.args hA') hB2)
  have hb : n ≤ 9223372036854775807 := by have h1 := (ArW.args hA).2.1; have h2 := (ArW.args hA).2.2.1; unfold maxLen at h2; omega
  rw [cmpT_mk, hn, hn']
  clear hA hA'
  generalize hlt : argsT t = l at *
  generalize hlu : argsT u = l' at *
  clear hlt hlu
  have Hst := Lib.hid (show ∀ k (f g : Tm), l[k]? = some f → l'[k]? = some g → cmpTs (l.drop k) (l'.drop k) = lex (cmpT f g) (cmpTs (l.drop (k + 1)) (l'.drop (k + 1))) from fun k f g h h2 => by rw [drop_t h, drop_t h2, cmpTs])
  have He := Lib.hid (show ∀ k, n ≤ k → cmpTs (l.drop k) (l'.drop k) = 0 from fun k h => by rw [List.drop_eq_nil_of_le (by omega), cmpTs])
  have HK := Lib.hid (show ∀ k f, l[k]? = some f → RefTmOk f from fun k f h => hok f (List.mem_of_getElem? h))
  have h0 : cmpTs l l' = cmpTs (l.drop 0) (l'.drop 0) := rfl
  rw [h0]
  obtain ⟨F, hF⟩ : ∃ F : Nat → Int, ∀ k, cmpTs (l.drop k) (l'.drop k) = F k := ⟨_, fun _ => rfl⟩
  simp only [hF] at Hst He ⊢
  clear hF h0 hok hn hn'
  obtain ⟨s0, s1, s2, s3⟩ := S2.four
  obtain ⟨t0, t1, t2, t3⟩ := T2.four
  have HS := Lib.hid S2
  have HT2 := Lib.hid T2
  clear S2 T2
  generalize opT t = op at *
  generalize nameT t = nm at *
  generalize numT t = nu at *
  generalize opT u = op' at *
  generalize nameT u = nm' at *
  generalize numT u = nu' at *
  have hlast : cmpI n n' = 0 → n = n' := fun h => by have := (linI.eq _ _).1 h; omega
  have c0 := fun (w : World) => number8_any op op' w
  have c1 := fun (w : World) => number8_any nu nu' w
  have c2 := fun (w : World) => text8_any nm nm' w
  have c3 := fun (w : World) => number8_any (n : Int) (n' : Int) w
  generalize cmpI op op' = x0 at *
  generalize cmpI nu nu' = x1 at *
  generalize cmpN nm nm' = x2 at *
  generalize cmpI (n : Int) (n' : Int) = x3 at *
  have HV : ∀ V, V = lex x0 (lex x1 (lex x2 x3)) → Hid ((V = 0 ∧ n = n' ∧ F 0 = lex (lex x0 (lex x1 (lex x2 x3))) (F 0)) ∨ (V ≠ 0 ∧ V = lex (lex x0 (lex x1 (lex x2 x3))) (F 0))) := fun V hV => by
    by_cases h : V = 0
    · refine .inl ⟨h, ?_, by rw [← hV, h, zero_lex]⟩
      rw [h] at hV
      exact hlast (lex_eq.1 (lex_eq.1 (lex_eq.1 hV.symm).2).2).2
    · refine .inr ⟨h, ?_⟩
      rw [← hV]; unfold lex; rw [if_pos h]
  have HVh := Lib.hid HV
  clear HV hlast
  generalize lex (lex x0 (lex x1 (lex x2 x3))) (F 0) = R at *
  by_cases h0 : x0 = 0
  · subst h0
    by_cases h1 : x1 = 0
    · subst h1
      by_cases h2 : x2 = 0
      · subst h2
        have HV0 := HVh.out x3 (by rw [zero_lex, zero_lex, zero_lex])
        clear HVh
        go_enter Try.func40, Try.ntmps40
        go_wp2_with (first
            | (go_at_call 38; (first | ((with_reducible refine (c0 _).mono ?_); rintro e w4 ⟨rfl, rfl⟩) | ((with_reducible refine (c1 _).mono ?_); rintro e w4 ⟨rfl, rfl⟩) | ((with_reducible refine (c3 _).mono ?_); rintro e w4 ⟨rfl, rfl⟩)))
            | (go_at_call 39; ((with_reducible refine (c2 _).mono ?_); rintro e w4 ⟨rfl, rfl⟩)))
        clear c0 c1 c2 c3
        go_loopw [5, 6] (fun q i wr0 => ∃ (wr : World) (k : Nat) (v : Int), wr = wr0 ∧ k ≤ n ∧ q = .int .i64 v ∧ i = .int .i64 k ∧ Below W2.heap.size W2 wr ∧ Hid ((v = 0 ∧ n = n' ∧ F k = R) ∨ (v ≠ 0 ∧ v = R))) (fun q i _ => n - (intOf i).toNat)
        case atStart => exact ⟨_, 0, _, rfl, by omega, rfl, rfl, Below.refl _ _, HV0⟩
        case round =>
          obtain ⟨wr, k, v, rfl, hk, rfl, rfl, hB, hR⟩ := hrel
          obtain ⟨_, _, _, sr⟩ := (TBox.b HS.out hB).four
          obtain ⟨_, _, _, tr⟩ := (TBox.b HT2.out hB).four
          rcases hR.out with ⟨rfl, rfl, hFk⟩ | ⟨hv, hvR⟩
          · by_cases hlt : k < n
            · obtain ⟨bb, o, t, A, M, Cc, rfl, hb, y0, y1, y2, y3, hx, hok⟩ := (TsW.b hTt.out hB).at hlt
              obtain ⟨bb', o', u, A', M', Cc', rfl, hb', z0, z1, z2, z3, hx', hok'⟩ := (TsW.b hTu.out hB).at hlt
              have hs1 := Hst.out k t u hx hx'
              have hk0 : 0 ≤ (k : Int) := by omega
              have hk1 : (k : Int) < (n : Int) := by omega
              have hBd : Below wr.heap.size wr wr.drew := (Below.refl _ _).drew
              have cs := HK.out k t hx u A M Cc A' M' Cc' wr.drew (ArW.b hok hBd) (ArW.b hok' hBd)
              have lS := Blk.lt (TBox.b HS.out hB)
              have lT := Blk.lt (TBox.b HT2.out hB)
              generalize cmpT t u = Q at *
              have hnew : Hid ((Q = 0 ∧ n = n ∧ F (k + 1) = R) ∨ (Q ≠ 0 ∧ Q = R)) := by
                rw [hs1] at hFk
                by_cases hQ : Q = 0
                · exact .inl ⟨hQ, rfl, by rw [hQ, zero_lex] at hFk; exact hFk⟩
                · exact .inr ⟨hQ, by unfold lex at hFk; rw [if_pos hQ] at hFk; exact hFk⟩
              clear hx hx' hok hok' hTt hTu Hst HK hR hs1 hFk HV0
              generalize opT t = op2 at *
              generalize nameT t = nm2 at *
              generalize numT t = nu2 at *
              generalize opT u = op3 at *
              generalize nameT u = nm3 at *
              generalize numT u = nu3 at *
              go_wp2_with fail
              go_region_held3 (fun w' => w'.cell? ⟨w.heap.size, 3, none⟩ = some (.slice (some ⟨bb, o, none⟩) n c) ∧ w'.cell? ⟨w.heap.size + 1, 3, none⟩ = some (.slice (some ⟨bb', o', none⟩) n c') ∧ w'.cell? ⟨bb, o + k * 4, none⟩ = some (.int .i64 op2) ∧ w'.cell? ⟨bb, o + k * 4 + 1, none⟩ = some (.string nm2) ∧ w'.cell? ⟨bb, o + k * 4 + 1 + 1, none⟩ = some (.int .i64 nu2) ∧ w'.cell? ⟨bb, o + k * 4 + 1 + 1 + 1, none⟩ = some (.slice A M Cc) ∧ w'.cell? ⟨bb', o' + k * 4, none⟩ = some (.int .i64 op3) ∧ w'.cell? ⟨bb', o' + k * 4 + 1, none⟩ = some (.string nm3) ∧ w'.cell? ⟨bb', o' + k * 4 + 1 + 1, none⟩ = some (.int .i64 nu3) ∧ w'.cell? ⟨bb', o' + k * 4 + 1 + 1 + 1, none⟩ = some (.slice A' M' Cc'))
                (first | go_keep | (exact ⟨(B4.cell lS).trans sr, (B4.cell lT).trans tr, (B4.cell hb).trans y0, (B4.cell hb).trans y1, (B4.cell hb).trans y2, (B4.cell hb).trans y3, (B4.cell hb').trans z0, (B4.cell hb').trans z1, (B4.cell hb').trans z2, (B4.cell hb').trans z3⟩))
                (first | (go_at_call 40; ((with_reducible refine cs.mono ?_); rintro e w4 ⟨rfl, hb4⟩; have B4 := bel_trans hBd hb4)))
              go_wp2
              go_roundw
              case rel => exact ⟨_, k + 1, Q, rfl, by omega, rfl, by go_num, bel_trans hB B4, hnew⟩
              case measure => simp [intOf]; omega
            · have hnew : Hid (0 = R) := by show _ = _; rw [← hFk, He.out k (by omega)]
              clear hR hFk
              go_wp2
              go_ret
              exact ⟨one hnew.out, bel_trans hB2 hB⟩
          · have hv0 : (v == 0) = false := by simpa using hv
            have hnew := Lib.hid hvR
            clear hR hvR
            by_cases hlt : k < n
            · go_wp2
              go_ret
              exact ⟨one hnew.out, bel_trans hB2 hB⟩
            · go_wp2
              go_ret
              exact ⟨one hnew.out, bel_trans hB2 hB⟩
      · have HV0 := HVh.out x2 (by rw [zero_lex, zero_lex]; unfold lex; rw [if_pos h2])
        have e2 : (x2 == 0) = false := by simpa using h2
        clear HVh
        go_enter Try.func40, Try.ntmps40
        go_wp2_with (first
            | (go_at_call 38; (first | ((with_reducible refine (c0 _).mono ?_); rintro e w4 ⟨rfl, rfl⟩) | ((with_reducible refine (c1 _).mono ?_); rintro e w4 ⟨rfl, rfl⟩) | ((with_reducible refine (c3 _).mono ?_); rintro e w4 ⟨rfl, rfl⟩)))
            | (go_at_call 39; ((with_reducible refine (c2 _).mono ?_); rintro e w4 ⟨rfl, rfl⟩)))
        clear c0 c1 c2 c3
        go_loopw [5, 6] (fun q i wr0 => ∃ (wr : World) (k : Nat) (v : Int), wr = wr0 ∧ k ≤ n ∧ q = .int .i64 v ∧ i = .int .i64 k ∧ Below W2.heap.size W2 wr ∧ Hid ((v = 0 ∧ n = n' ∧ F k = R) ∨ (v ≠ 0 ∧ v = R))) (fun q i _ => n - (intOf i).toNat)
        case atStart => exact ⟨_, 0, _, rfl, by omega, rfl, rfl, Below.refl _ _, HV0⟩
        case round =>
          obtain ⟨wr, k, v, rfl, hk, rfl, rfl, hB, hR⟩ := hrel
          obtain ⟨_, _, _, sr⟩ := (TBox.b HS.out hB).four
          obtain ⟨_, _, _, tr⟩ := (TBox.b HT2.out hB).four
          rcases hR.out with ⟨rfl, rfl, hFk⟩ | ⟨hv, hvR⟩
          · by_cases hlt : k < n
            · obtain ⟨bb, o, t, A, M, Cc, rfl, hb, y0, y1, y2, y3, hx, hok⟩ := (TsW.b hTt.out hB).at hlt
              obtain ⟨bb', o', u, A', M', Cc', rfl, hb', z0, z1, z2, z3, hx', hok'⟩ := (TsW.b hTu.out hB).at hlt
              have hs1 := Hst.out k t u hx hx'
              have hk0 : 0 ≤ (k : Int) := by omega
              have hk1 : (k : Int) < (n : Int) := by omega
              have hBd : Below wr.heap.size wr wr.drew := (Below.refl _ _).drew
              have cs := HK.out k t hx u A M Cc A' M' Cc' wr.drew (ArW.b hok hBd) (ArW.b hok' hBd)
              have lS := Blk.lt (TBox.b HS.out hB)
              have lT := Blk.lt (TBox.b HT2.out hB)
              generalize cmpT t u = Q at *
              have hnew : Hid ((Q = 0 ∧ n = n ∧ F (k + 1) = R) ∨ (Q ≠ 0 ∧ Q = R)) := by
                rw [hs1] at hFk
                by_cases hQ : Q = 0
                · exact .inl ⟨hQ, rfl, by rw [hQ, zero_lex] at hFk; exact hFk⟩
                · exact .inr ⟨hQ, by unfold lex at hFk; rw [if_pos hQ] at hFk; exact hFk⟩
              clear hx hx' hok hok' hTt hTu Hst HK hR hs1 hFk HV0
              generalize opT t = op2 at *
              generalize nameT t = nm2 at *
              generalize numT t = nu2 at *
              generalize opT u = op3 at *
              generalize nameT u = nm3 at *
              generalize numT u = nu3 at *
              go_wp2_with fail
              go_region_held3 (fun w' => w'.cell? ⟨w.heap.size, 3, none⟩ = some (.slice (some ⟨bb, o, none⟩) n c) ∧ w'.cell? ⟨w.heap.size + 1, 3, none⟩ = some (.slice (some ⟨bb', o', none⟩) n c') ∧ w'.cell? ⟨bb, o + k * 4, none⟩ = some (.int .i64 op2) ∧ w'.cell? ⟨bb, o + k * 4 + 1, none⟩ = some (.string nm2) ∧ w'.cell? ⟨bb, o + k * 4 + 1 + 1, none⟩ = some (.int .i64 nu2) ∧ w'.cell? ⟨bb, o + k * 4 + 1 + 1 + 1, none⟩ = some (.slice A M Cc) ∧ w'.cell? ⟨bb', o' + k * 4, none⟩ = some (.int .i64 op3) ∧ w'.cell? ⟨bb', o' + k * 4 + 1, none⟩ = some (.string nm3) ∧ w'.cell? ⟨bb', o' + k * 4 + 1 + 1, none⟩ = some (.int .i64 nu3) ∧ w'.cell? ⟨bb', o' + k * 4 + 1 + 1 + 1, none⟩ = some (.slice A' M' Cc'))
                (first | go_keep | (exact ⟨(B4.cell lS).trans sr, (B4.cell lT).trans tr, (B4.cell hb).trans y0, (B4.cell hb).trans y1, (B4.cell hb).trans y2, (B4.cell hb).trans y3, (B4.cell hb').trans z0, (B4.cell hb').trans z1, (B4.cell hb').trans z2, (B4.cell hb').trans z3⟩))
                (first | (go_at_call 40; ((with_reducible refine cs.mono ?_); rintro e w4 ⟨rfl, hb4⟩; have B4 := bel_trans hBd hb4)))
              go_wp2
              go_roundw
              case rel => exact ⟨_, k + 1, Q, rfl, by omega, rfl, by go_num, bel_trans hB B4, hnew⟩
              case measure => simp [intOf]; omega
            · have hnew : Hid (0 = R) := by show _ = _; rw [← hFk, He.out k (by omega)]
              clear hR hFk
              go_wp2
              go_ret
              exact ⟨one hnew.out, bel_trans hB2 hB⟩
          · have hv0 : (v == 0) = false := by simpa using hv
            have hnew := Lib.hid hvR
            clear hR hvR
            by_cases hlt : k < n
            · go_wp2
              go_ret
              exact ⟨one hnew.out, bel_trans hB2 hB⟩
            · go_wp2
              go_ret
              exact ⟨one hnew.out, bel_trans hB2 hB⟩
    · have HV0 := HVh.out x1 (by rw [zero_lex]; unfold lex; rw [if_pos h1])
      have e1 : (x1 == 0) = false := by simpa using h1
      clear HVh
      go_enter Try.func40, Try.ntmps40
      go_wp2_with (first
          | (go_at_call 38; (first | ((with_reducible refine (c0 _).mono ?_); rintro e w4 ⟨rfl, rfl⟩) | ((with_reducible refine (c1 _).mono ?_); rintro e w4 ⟨rfl, rfl⟩) | ((with_reducible refine (c3 _).mono ?_); rintro e w4 ⟨rfl, rfl⟩)))
          | (go_at_call 39; ((with_reducible refine (c2 _).mono ?_); rintro e w4 ⟨rfl, rfl⟩)))
      clear c0 c1 c2 c3
      go_loopw [5, 6] (fun q i wr0 => ∃ (wr : World) (k : Nat) (v : Int), wr = wr0 ∧ k ≤ n ∧ q = .int .i64 v ∧ i = .int .i64 k ∧ Below W2.heap.size W2 wr ∧ Hid ((v = 0 ∧ n = n' ∧ F k = R) ∨ (v ≠ 0 ∧ v = R))) (fun q i _ => n - (intOf i).toNat)
      case atStart => exact ⟨_, 0, _, rfl, by omega, rfl, rfl, Below.refl _ _, HV0⟩
      case round =>
        obtain ⟨wr, k, v, rfl, hk, rfl, rfl, hB, hR⟩ := hrel
        obtain ⟨_, _, _, sr⟩ := (TBox.b HS.out hB).four
        obtain ⟨_, _, _, tr⟩ := (TBox.b HT2.out hB).four
        rcases hR.out with ⟨rfl, rfl, hFk⟩ | ⟨hv, hvR⟩
        · by_cases hlt : k < n
          · obtain ⟨bb, o, t, A, M, Cc, rfl, hb, y0, y1, y2, y3, hx, hok⟩ := (TsW.b hTt.out hB).at hlt
            obtain ⟨bb', o', u, A', M', Cc', rfl, hb', z0, z1, z2, z3, hx', hok'⟩ := (TsW.b hTu.out hB).at hlt
            have hs1 := Hst.out k t u hx hx'
            have hk0 : 0 ≤ (k : Int) := by omega
            have hk1 : (k : Int) < (n : Int) := by omega
            have hBd : Below wr.heap.size wr wr.drew := (Below.refl _ _).drew
            have cs := HK.out k t hx u A M Cc A' M' Cc' wr.drew (ArW.b hok hBd) (ArW.b hok' hBd)
            have lS := Blk.lt (TBox.b HS.out hB)
            have lT := Blk.lt (TBox.b HT2.out hB)
            generalize cmpT t u = Q at *
            have hnew : Hid ((Q = 0 ∧ n = n ∧ F (k + 1) = R) ∨ (Q ≠ 0 ∧ Q = R)) := by
              rw [hs1] at hFk
              by_cases hQ : Q = 0
              · exact .inl ⟨hQ, rfl, by rw [hQ, zero_lex] at hFk; exact hFk⟩
              · exact .inr ⟨hQ, by unfold lex at hFk; rw [if_pos hQ] at hFk; exact hFk⟩
            clear hx hx' hok hok' hTt hTu Hst HK hR hs1 hFk HV0
            generalize opT t = op2 at *
            generalize nameT t = nm2 at *
            generalize numT t = nu2 at *
            generalize opT u = op3 at *
            generalize nameT u = nm3 at *
            generalize numT u = nu3 at *
            go_wp2_with fail
            go_region_held3 (fun w' => w'.cell? ⟨w.heap.size, 3, none⟩ = some (.slice (some ⟨bb, o, none⟩) n c) ∧ w'.cell? ⟨w.heap.size + 1, 3, none⟩ = some (.slice (some ⟨bb', o', none⟩) n c') ∧ w'.cell? ⟨bb, o + k * 4, none⟩ = some (.int .i64 op2) ∧ w'.cell? ⟨bb, o + k * 4 + 1, none⟩ = some (.string nm2) ∧ w'.cell? ⟨bb, o + k * 4 + 1 + 1, none⟩ = some (.int .i64 nu2) ∧ w'.cell? ⟨bb, o + k * 4 + 1 + 1 + 1, none⟩ = some (.slice A M Cc) ∧ w'.cell? ⟨bb', o' + k * 4, none⟩ = some (.int .i64 op3) ∧ w'.cell? ⟨bb', o' + k * 4 + 1, none⟩ = some (.string nm3) ∧ w'.cell? ⟨bb', o' + k * 4 + 1 + 1, none⟩ = some (.int .i64 nu3) ∧ w'.cell? ⟨bb', o' + k * 4 + 1 + 1 + 1, none⟩ = some (.slice A' M' Cc'))
              (first | go_keep | (exact ⟨(B4.cell lS).trans sr, (B4.cell lT).trans tr, (B4.cell hb).trans y0, (B4.cell hb).trans y1, (B4.cell hb).trans y2, (B4.cell hb).trans y3, (B4.cell hb').trans z0, (B4.cell hb').trans z1, (B4.cell hb').trans z2, (B4.cell hb').trans z3⟩))
              (first | (go_at_call 40; ((with_reducible refine cs.mono ?_); rintro e w4 ⟨rfl, hb4⟩; have B4 := bel_trans hBd hb4)))
            go_wp2
            go_roundw
            case rel => exact ⟨_, k + 1, Q, rfl, by omega, rfl, by go_num, bel_trans hB B4, hnew⟩
            case measure => simp [intOf]; omega
          · have hnew : Hid (0 = R) := by show _ = _; rw [← hFk, He.out k (by omega)]
            clear hR hFk
            go_wp2
            go_ret
            exact ⟨one hnew.out, bel_trans hB2 hB⟩
        · have hv0 : (v == 0) = false := by simpa using hv
          have hnew := Lib.hid hvR
          clear hR hvR
          by_cases hlt : k < n
          · go_wp2
            go_ret
            exact ⟨one hnew.out, bel_trans hB2 hB⟩
          · go_wp2
            go_ret
            exact ⟨one hnew.out, bel_trans hB2 hB⟩
  · have HV0 := HVh.out x0 (by unfold lex; rw [if_pos h0])
    have e0 : (x0 == 0) = false := by simpa using h0
    clear HVh
    go_enter Try.func40, Try.ntmps40
    go_wp2_with (first
        | (go_at_call 38; (first | ((with_reducible refine (c0 _).mono ?_); rintro e w4 ⟨rfl, rfl⟩) | ((with_reducible refine (c1 _).mono ?_); rintro e w4 ⟨rfl, rfl⟩) | ((with_reducible refine (c3 _).mono ?_); rintro e w4 ⟨rfl, rfl⟩)))
        | (go_at_call 39; ((with_reducible refine (c2 _).mono ?_); rintro e w4 ⟨rfl, rfl⟩)))
    clear c0 c1 c2 c3
    go_loopw [5, 6] (fun q i wr0 => ∃ (wr : World) (k : Nat) (v : Int), wr = wr0 ∧ k ≤ n ∧ q = .int .i64 v ∧ i = .int .i64 k ∧ Below W2.heap.size W2 wr ∧ Hid ((v = 0 ∧ n = n' ∧ F k = R) ∨ (v ≠ 0 ∧ v = R))) (fun q i _ => n - (intOf i).toNat)
    case atStart => exact ⟨_, 0, _, rfl, by omega, rfl, rfl, Below.refl _ _, HV0⟩
    case round =>
      obtain ⟨wr, k, v, rfl, hk, rfl, rfl, hB, hR⟩ := hrel
      obtain ⟨_, _, _, sr⟩ := (TBox.b HS.out hB).four
      obtain ⟨_, _, _, tr⟩ := (TBox.b HT2.out hB).four
      rcases hR.out with ⟨rfl, rfl, hFk⟩ | ⟨hv, hvR⟩
      · by_cases hlt : k < n
        · obtain ⟨bb, o, t, A, M, Cc, rfl, hb, y0, y1, y2, y3, hx, hok⟩ := (TsW.b hTt.out hB).at hlt
          obtain ⟨bb', o', u, A', M', Cc', rfl, hb', z0, z1, z2, z3, hx', hok'⟩ := (TsW.b hTu.out hB).at hlt
          have hs1 := Hst.out k t u hx hx'
          have hk0 : 0 ≤ (k : Int) := by omega
          have hk1 : (k : Int) < (n : Int) := by omega
          have hBd : Below wr.heap.size wr wr.drew := (Below.refl _ _).drew
          have cs := HK.out k t hx u A M Cc A' M' Cc' wr.drew (ArW.b hok hBd) (ArW.b hok' hBd)
          have lS := Blk.lt (TBox.b HS.out hB)
          have lT := Blk.lt (TBox.b HT2.out hB)
          generalize cmpT t u = Q at *
          have hnew : Hid ((Q = 0 ∧ n = n ∧ F (k + 1) = R) ∨ (Q ≠ 0 ∧ Q = R)) := by
            rw [hs1] at hFk
            by_cases hQ : Q = 0
            · exact .inl ⟨hQ, rfl, by rw [hQ, zero_lex] at hFk; exact hFk⟩
            · exact .inr ⟨hQ, by unfold lex at hFk; rw [if_pos hQ] at hFk; exact hFk⟩
          clear hx hx' hok hok' hTt hTu Hst HK hR hs1 hFk HV0
          generalize opT t = op2 at *
          generalize nameT t = nm2 at *
          generalize numT t = nu2 at *
          generalize opT u = op3 at *
          generalize nameT u = nm3 at *
          generalize numT u = nu3 at *
          go_wp2_with fail
          go_region_held3 (fun w' => w'.cell? ⟨w.heap.size, 3, none⟩ = some (.slice (some ⟨bb, o, none⟩) n c) ∧ w'.cell? ⟨w.heap.size + 1, 3, none⟩ = some (.slice (some ⟨bb', o', none⟩) n c') ∧ w'.cell? ⟨bb, o + k * 4, none⟩ = some (.int .i64 op2) ∧ w'.cell? ⟨bb, o + k * 4 + 1, none⟩ = some (.string nm2) ∧ w'.cell? ⟨bb, o + k * 4 + 1 + 1, none⟩ = some (.int .i64 nu2) ∧ w'.cell? ⟨bb, o + k * 4 + 1 + 1 + 1, none⟩ = some (.slice A M Cc) ∧ w'.cell? ⟨bb', o' + k * 4, none⟩ = some (.int .i64 op3) ∧ w'.cell? ⟨bb', o' + k * 4 + 1, none⟩ = some (.string nm3) ∧ w'.cell? ⟨bb', o' + k * 4 + 1 + 1, none⟩ = some (.int .i64 nu3) ∧ w'.cell? ⟨bb', o' + k * 4 + 1 + 1 + 1, none⟩ = some (.slice A' M' Cc'))
            (first | go_keep | (exact ⟨(B4.cell lS).trans sr, (B4.cell lT).trans tr, (B4.cell hb).trans y0, (B4.cell hb).trans y1, (B4.cell hb).trans y2, (B4.cell hb).trans y3, (B4.cell hb').trans z0, (B4.cell hb').trans z1, (B4.cell hb').trans z2, (B4.cell hb').trans z3⟩))
            (first | (go_at_call 40; ((with_reducible refine cs.mono ?_); rintro e w4 ⟨rfl, hb4⟩; have B4 := bel_trans hBd hb4)))
          go_wp2
          go_roundw
          case rel => exact ⟨_, k + 1, Q, rfl, by omega, rfl, by go_num, bel_trans hB B4, hnew⟩
          case measure => simp [intOf]; omega
        · have hnew : Hid (0 = R) := by show _ = _; rw [← hFk, He.out k (by omega)]
          clear hR hFk
          go_wp2
          go_ret
          exact ⟨one hnew.out, bel_trans hB2 hB⟩
      · have hv0 : (v == 0) = false := by simpa using hv
        have hnew := Lib.hid hvR
        clear hR hvR
        by_cases hlt : k < n
        · go_wp2
          go_ret
          exact ⟨one hnew.out, bel_trans hB2 hB⟩
        · go_wp2
          go_ret
          exact ⟨one hnew.out, bel_trans hB2 hB⟩
theorem refTm_any (t : Tm) : RefTmOk t := Tm.ind refTm_step t
end Go.Proofs.Ytgjjhonopindlaa.T
