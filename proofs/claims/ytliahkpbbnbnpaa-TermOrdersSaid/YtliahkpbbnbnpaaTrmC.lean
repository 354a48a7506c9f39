/-
  What is proved: what the document's comparison of two terms returns: the same order of trees.
-/
import Derived.Test.YtliahkpbbnbnpaaTrmB
namespace Go.Proofs.Ytliahkpbbnbnpaa.T
open Go.RowKit L
set_option linter.unusedVariables false
set_option linter.unusedSimpArgs false

theorem lex4 {x0 x1 x2 x3 : Int} (h : ∀ j, j < 4 → ([x0, x1, x2, x3] : List Int).getD j 0 = 0) : lex x0 (lex x1 (lex x2 x3)) = 0 := by
  have h0 := h 0 (by omega)
  have h1 := h 1 (by omega)
  have h2 := h 2 (by omega)
  have h3 := h 3 (by omega)
  simp at h0 h1 h2 h3
  subst h0 h1 h2 h3
  rfl
theorem lex4_at {x0 x1 x2 x3 : Int} {k : Nat} (hk : k < 4) (h : ∀ j, j < k → ([x0, x1, x2, x3] : List Int).getD j 0 = 0) (hne : ([x0, x1, x2, x3] : List Int).getD k 0 ≠ 0) : ([x0, x1, x2, x3] : List Int).getD k 0 = lex x0 (lex x1 (lex x2 x3)) := by
  have hc : k = 0 ∨ k = 1 ∨ k = 2 ∨ k = 3 := by omega
  rcases hc with rfl | rfl | rfl | rfl
  · simp at hne ⊢; unfold lex; simp [hne]
  · have h0 := h 0 (by omega)
    simp at h0 hne ⊢; subst h0; unfold lex; simp [hne]
  · have h0 := h 0 (by omega)
    have h1 := h 1 (by omega)
    simp at h0 h1 hne ⊢; subst h0 h1; unfold lex; simp [hne]
  · have h0 := h 0 (by omega)
    have h1 := h 1 (by omega)
    have h2 := h 2 (by omega)
    simp at h0 h1 h2 hne ⊢; subst h0 h1 h2; unfold lex; simp
theorem Four.at {w : World} {g : Nat} {x0 x1 x2 x3 : Int} (h : Four w g x0 x1 x2 x3) {k : Nat} (hk : k < 4) : w.cell? ⟨g, k, none⟩ = some (.int .i64 (([x0, x1, x2, x3] : List Int).getD k 0)) := by
  have hc : k = 0 ∨ k = 1 ∨ k = 2 ∨ k = 3 := by omega
  obtain ⟨c0, c1, c2, c3⟩ := h.cells
  rcases hc with rfl | rfl | rfl | rfl
  · exact c0
  · exact c1
  · exact c2
  · exact c3
def numI (x y : Bool) : Int := if x = true then -1 else if y = true then 1 else 0
theorem number_any (x y : Bool) (w : World) : Calls Try.prog 48 #[.bool x, .bool y] w fun e w' => e = .returned (.int .i64 (numI x y)) ∧ w = w' := by
  cases x <;> cases y
  all_goals
    go_enter Try.func48, Try.ntmps48
    go_wp2
    go_ret
    exact ⟨rfl, rfl⟩
/-- the comparison, at this term -/
def RefCmpOk (t : Tm) : Prop := ∀ (u : Tm) (a : Option Addr) (n c : Nat) (a' : Option Addr) (n' c' : Nat) (w : World), ArW w t a n c → ArW w u a' n' c' →
  Calls Try.prog 20 #[.agg #[.int .i64 (opT t), .string (nameT t), .int .i64 (numT t), .slice a n c], .agg #[.int .i64 (opT u), .string (nameT u), .int .i64 (numT u), .slice a' n' c']] w fun e w' => e = .returned (.int .i64 (cmpT t u)) ∧ Below w.heap.size w w'
set_option maxRecDepth 100000 in
set_option maxHeartbeats 4000000 in
theorem refCompare_step (t : Tm) (hok : ∀ x ∈ argsT t, RefCmpOk x) : RefCmpOk t := by
  intro u a n c a' n' c' w hA hA'
  obtain ⟨W2, hW2, hB2, hs2, S2, T2⟩ := box2 w (opT t) (nameT t) (numT t) a n c (opT u) (nameT u) (numT u) a' n' c'
  have hn : (argsT t).length = n := (ArW.args hA).1.symm
  have hn' : (argsT u).length = n' := (ArW.args hA').1.symm
  have hTt := Lib.hid (TsW.b (ArW.args hA) hB2)
  have hTu := Lib.hid (TsW.b (ArW.args hA') hB2)
  have hb : n ≤ 9223372036854775807 := by have h1 := (ArW.args hA).2.1; have h2 := (ArW.args hA).2.2.1; unfold maxLen at h2; omega
  rw [cmpT_mk, hn, hn']
  clear hA hA'
  generalize hlt : argsT t = l at *
  generalize hlu : argsT u = l' at *
  clear hlt hlu
  have Hst := Lib.hid (show ∀ k (f g : Tm), l[k]? = some f → l'[k]? = some g → cmpTs (l.drop k) (l'.drop k) = lex (cmpT f g) (cmpTs (l.drop (k + 1)) (l'.drop (k + 1))) from fun k f g h h2 => by rw [drop_t h, drop_t h2, cmpTs])
  have He := Lib.hid (show ∀ k, n ≤ k → cmpTs (l.drop k) (l'.drop k) = 0 from fun k h => by rw [List.drop_eq_nil_of_le (by omega), cmpTs])
  have HK := Lib.hid (show ∀ k f, l[k]? = some f → RefCmpOk f from fun k f h => hok f (List.mem_of_getElem? h))
  have h0 : cmpTs l l' = cmpTs (l.drop 0) (l'.drop 0) := rfl
  rw [h0]
  obtain ⟨F, hF⟩ : ∃ F : Nat → Int, ∀ k, cmpTs (l.drop k) (l'.drop k) = F k := ⟨_, fun _ => rfl⟩
  simp only [hF] at Hst He ⊢
  generalize hR : F 0 = R
  have HR := Lib.hid hR
  clear hF h0 hok hR hn hn'
  have lgS := Blk.lt S2
  have lgT := Blk.lt T2
  obtain ⟨s0, s1, s2, s3⟩ := S2.four
  obtain ⟨t0, t1, t2, t3⟩ := T2.four
  generalize opT t = op at *
  generalize nameT t = nm at *
  generalize numT t = nu at *
  generalize opT u = op' at *
  generalize nameT u = nm' at *
  generalize numT u = nu' at *
  have hlast : cmpI n n' = 0 → n = n' := fun h => by have := (linI.eq _ _).1 h; omega
  have e0 : numI (decide (op < op')) (decide (op' < op)) = cmpI op op' := by unfold numI cmpI; simp
  have e1 : numI (decide (nu < nu')) (decide (nu' < nu)) = cmpI nu nu' := by unfold numI cmpI; simp
  have e2 : numI (Op.bytesLess nm.toList nm'.toList) (!Op.bytesLess nm.toList nm'.toList && !nm.toList == nm'.toList) = cmpN nm nm' := by
    rw [less_yes, same_yes]; unfold numI
    rcases linN.rng nm nm' with h | h | h <;> rw [h] <;> rfl
  have e3 : numI (decide (n < n')) (decide (n' < n)) = cmpI n n' := by unfold numI cmpI; simp
  generalize cmpI op op' = x0 at *
  generalize cmpI nu nu' = x1 at *
  generalize cmpN nm nm' = x2 at *
  generalize cmpI (n : Int) (n' : Int) = x3 at *
  have hF : Four (W2.alloc (.cells #[.int .i64 x0, .int .i64 x1, .int .i64 x2, .int .i64 x3] 3)).drew (w.heap.size + 2) x0 x1 x2 x3 := by rw [← hs2]; exact Blk.below (Blk.new W2 _ _) (Below.refl _ _).drew
  have BF : Below W2.heap.size W2 (W2.alloc (.cells #[.int .i64 x0, .int .i64 x1, .int .i64 x2, .int .i64 x3] 3)).drew := (bel_alloc (Below.refl _ _) _).drew
  generalize hD : lex x0 (lex x1 (lex x2 x3)) = D at *
  have HL := Lib.hid (show D = 0 → n = n' from fun h => by
    rw [h] at hD
    exact hlast (lex_eq.1 (lex_eq.1 (lex_eq.1 hD).2).2).2)
  clear hlast
  have HD := Lib.hid hD
  clear hD
  obtain ⟨W3, hW3⟩ : ∃ W3, (W2.alloc (.cells #[.int .i64 x0, .int .i64 x1, .int .i64 x2, .int .i64 x3] 3)).drew = W3 := ⟨_, rfl⟩
  rw [hW3] at hF BF
  have B3 := bel_trans hB2 BF
  have S3 := S2.b BF
  have T3 := T2.b BF
  obtain ⟨u0, u1, u2, u3⟩ := S3.four
  obtain ⟨v0, v1, v2, v3⟩ := T3.four
  have cN := fun (x y : Bool) (w : World) => number_any x y w
  go_enter Try.func20, Try.ntmps20
  go_wp2_with fail
  go_region_held3 (fun w' => w'.cell? ⟨w.heap.size, 0, none⟩ = some (.int .i64 op) ∧ w'.cell? ⟨w.heap.size, 1, none⟩ = some (.string nm) ∧ w'.cell? ⟨w.heap.size, 2, none⟩ = some (.int .i64 nu) ∧ w'.cell? ⟨w.heap.size, 3, none⟩ = some (.slice a n c) ∧ w'.cell? ⟨w.heap.size + 1, 0, none⟩ = some (.int .i64 op') ∧ w'.cell? ⟨w.heap.size + 1, 1, none⟩ = some (.string nm') ∧ w'.cell? ⟨w.heap.size + 1, 2, none⟩ = some (.int .i64 nu') ∧ w'.cell? ⟨w.heap.size + 1, 3, none⟩ = some (.slice a' n' c'))
    (first | (exact ⟨u0, u1, u2, u3, v0, v1, v2, v3⟩) | go_keep)
    (first
      | (go_at_call 48; ((with_reducible refine (cN _ _ _).mono ?_); rintro e w4 ⟨rfl, rfl⟩)))
  clear e0 e1 e2 e3 s0 s1 s2 s3 t0 t1 t2 t3 S2 T2 hW2 hW3
  go_wp2
  go_loopw [6] (fun i wr0 => ∃ (k : Nat), wr0 = W3 ∧ k ≤ 4 ∧ i = .int .i64 k ∧ Hid (∀ j, j < k → ([x0, x1, x2, x3] : List Int).getD j 0 = 0)) (fun i _ => 4 - (intOf i).toNat)
  case atStart => exact ⟨0, by trivial, by omega, rfl, Lib.hid (fun j h => absurd h (by omega))⟩
  case round =>
    obtain ⟨k, hw, hk, rfl, hZ⟩ := hrel
    have hw' := hw.symm
    subst hw'
    by_cases hk4 : k < 4
    · have hc := hF.at hk4
      have hat := Lib.hid (@lex4_at x0 x1 x2 x3 k hk4 hZ.out)
      generalize hX : ([x0, x1, x2, x3] : List Int).getD k 0 = X at *
      have HX := Lib.hid hX
      clear hX
      by_cases hX0 : X = 0
      · subst hX0
        go_wp2
        go_roundw
        case rel => exact ⟨k + 1, by trivial, by omega, by go_num, Lib.hid (fun j hj => by
          by_cases h : j < k
          · exact hZ.out j h
          · have : j = k := by omega
            subst this; exact HX.out)⟩
        case measure => simp [intOf]; omega
      · have hnew : Hid (X = lex D R) := by
          have h1 := hat.out hX0
          rw [HD.out] at h1
          show _ = _; unfold lex; rw [if_pos (by rw [← h1]; exact hX0)]; exact h1
        have hX1 : (X != 0) = true := by simpa using hX0
        go_wp2
        go_ret
        exact ⟨one hnew.out, B3⟩
    · have hD0 : D = 0 := by rw [← HD.out]; exact lex4 (fun j hj => hZ.out j (by omega))
      have hnn := HL.out hD0
      subst hD0
      subst hnn
      have hR0 : Hid (F 0 = lex 0 R) := by show _ = _; rw [zero_lex]; exact HR.out
      obtain rfl : k = 4 := by omega
      clear HR HD HL hZ hk4 hk hF
      go_wp2
      go_loopw [7] (fun i wr0 => ∃ (wr : World) (k : Nat), wr = wr0 ∧ k ≤ n ∧ i = .int .i64 k ∧ Below W3.heap.size W3 wr ∧ Hid (F k = lex 0 R)) (fun i _ => n - (intOf i).toNat)
      case atStart => exact ⟨_, 0, rfl, by omega, rfl, Below.refl _ _, hR0⟩
      case round =>
        obtain ⟨wr, k, rfl, hk, rfl, hB, hR⟩ := hrel
        obtain ⟨_, _, _, sr⟩ := (S3.b hB).four
        obtain ⟨_, _, _, tr⟩ := (T3.b hB).four
        by_cases hlt : k < n
        · obtain ⟨bb, o, t, A, M, Cc, rfl, hb, y0, y1, y2, y3, hx, hok⟩ := (TsW.b hTt.out (bel_trans BF hB)).at hlt
          obtain ⟨bb', o', u, A', M', Cc', rfl, hb', z0, z1, z2, z3, hx', hok'⟩ := (TsW.b hTu.out (bel_trans BF hB)).at hlt
          have hs1 := Lib.hid (Hst.out k t u hx hx')
          have hk0 : 0 ≤ (k : Int) := by omega
          have hk1 : (k : Int) < (n : Int) := by omega
          have hBd : Below wr.heap.size wr wr.drew := (Below.refl _ _).drew
          have cs := HK.out k t hx u A M Cc A' M' Cc' wr.drew (ArW.b hok hBd) (ArW.b hok' hBd)
          have lS := Blk.lt (S3.b hB)
          have lT := Blk.lt (T3.b hB)
          clear hx hx' hok hok' hTt hTu Hst HK
          generalize cmpT t u = Q at *
          generalize opT t = op2 at *
          generalize nameT t = nm2 at *
          generalize numT t = nu2 at *
          generalize opT u = op3 at *
          generalize nameT u = nm3 at *
          generalize numT u = nu3 at *
          by_cases hQ : Q = 0
          · subst hQ
            have hnew : Hid (F (k + 1) = lex 0 R) := by show _ = _; rw [← hR.out, hs1.out, zero_lex]
            clear hR hs1
            go_wp2_with fail
            go_region_held3 (fun w' => w'.cell? ⟨w.heap.size, 3, none⟩ = some (.slice (some ⟨bb, o, none⟩) n c) ∧ w'.cell? ⟨w.heap.size + 1, 3, none⟩ = some (.slice (some ⟨bb', o', none⟩) n c') ∧ w'.cell? ⟨bb, o + k * 4, none⟩ = some (.int .i64 op2) ∧ w'.cell? ⟨bb, o + k * 4 + 1, none⟩ = some (.string nm2) ∧ w'.cell? ⟨bb, o + k * 4 + 1 + 1, none⟩ = some (.int .i64 nu2) ∧ w'.cell? ⟨bb, o + k * 4 + 1 + 1 + 1, none⟩ = some (.slice A M Cc) ∧ w'.cell? ⟨bb', o' + k * 4, none⟩ = some (.int .i64 op3) ∧ w'.cell? ⟨bb', o' + k * 4 + 1, none⟩ = some (.string nm3) ∧ w'.cell? ⟨bb', o' + k * 4 + 1 + 1, none⟩ = some (.int .i64 nu3) ∧ w'.cell? ⟨bb', o' + k * 4 + 1 + 1 + 1, none⟩ = some (.slice A' M' Cc'))
              (first | go_keep | (exact ⟨(B4.cell lS).trans sr, (B4.cell lT).trans tr, (B4.cell hb).trans y0, (B4.cell hb).trans y1, (B4.cell hb).trans y2, (B4.cell hb).trans y3, (B4.cell hb').trans z0, (B4.cell hb').trans z1, (B4.cell hb').trans z2, (B4.cell hb').trans z3⟩))
              (first | (go_at_call 20; ((with_reducible refine cs.mono ?_); rintro e w4 ⟨rfl, hb4⟩; have B4 := bel_trans hBd hb4)))
            go_wp2
            go_roundw
            case rel => exact ⟨_, k + 1, rfl, by omega, by go_num, bel_trans hB B4, hnew⟩
            case measure => simp [intOf]; omega
          · have hnew : Hid (Q = lex 0 R) := by show _ = _; rw [← hR.out, hs1.out]; unfold lex; rw [if_pos hQ]
            have hq : (Q != 0) = true := by simpa using hQ
            clear hR hs1
            go_wp2_with fail
            go_region_held3 (fun w' => w'.cell? ⟨w.heap.size, 3, none⟩ = some (.slice (some ⟨bb, o, none⟩) n c) ∧ w'.cell? ⟨w.heap.size + 1, 3, none⟩ = some (.slice (some ⟨bb', o', none⟩) n c') ∧ w'.cell? ⟨bb, o + k * 4, none⟩ = some (.int .i64 op2) ∧ w'.cell? ⟨bb, o + k * 4 + 1, none⟩ = some (.string nm2) ∧ w'.cell? ⟨bb, o + k * 4 + 1 + 1, none⟩ = some (.int .i64 nu2) ∧ w'.cell? ⟨bb, o + k * 4 + 1 + 1 + 1, none⟩ = some (.slice A M Cc) ∧ w'.cell? ⟨bb', o' + k * 4, none⟩ = some (.int .i64 op3) ∧ w'.cell? ⟨bb', o' + k * 4 + 1, none⟩ = some (.string nm3) ∧ w'.cell? ⟨bb', o' + k * 4 + 1 + 1, none⟩ = some (.int .i64 nu3) ∧ w'.cell? ⟨bb', o' + k * 4 + 1 + 1 + 1, none⟩ = some (.slice A' M' Cc'))
              (first | go_keep | (exact ⟨(B4.cell lS).trans sr, (B4.cell lT).trans tr, (B4.cell hb).trans y0, (B4.cell hb).trans y1, (B4.cell hb).trans y2, (B4.cell hb).trans y3, (B4.cell hb').trans z0, (B4.cell hb').trans z1, (B4.cell hb').trans z2, (B4.cell hb').trans z3⟩))
              (first | (go_at_call 20; ((with_reducible refine cs.mono ?_); rintro e w4 ⟨rfl, hb4⟩; have B4 := bel_trans hBd hb4)))
            go_wp2
            go_ret
            exact ⟨one hnew.out, bel_trans B3 (bel_trans hB B4)⟩
        · have hnew : Hid (0 = lex 0 R) := by show _ = _; rw [← hR.out, He.out k (by omega)]
          clear hR
          go_wp2
          go_ret
          exact ⟨one hnew.out, bel_trans B3 hB⟩
theorem refCompare_any (t : Tm) : RefCmpOk t := Tm.ind refCompare_step t
end Go.Proofs.Ytliahkpbbnbnpaa.T
