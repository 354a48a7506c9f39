/-
  What is proved: what package term's comparison of two terms returns: the order of trees.
-/
import Derived.Test.YtelepojpnkoelaaZTrmA
namespace Go.Proofs.Ytelepojpnkoelaa.T
open Go.RowKit L
set_option linter.unusedVariables false
set_option linter.unusedSimpArgs false

theorem cmpT_mk (t u : Tm) : cmpT t u = lex (lex (cmpI (opT t) (opT u)) (lex (cmpI (numT t) (numT u)) (lex (cmpN (nameT t) (nameT u)) (cmpI (argsT t).length (argsT u).length)))) (cmpTs (argsT t) (argsT u)) := by
  cases t; cases u; rw [cmpT, lex_assoc, lex_assoc, lex_assoc]; rfl
/-- the comparison, at this term -/
def CmpOk (t : Tm) : Prop := ∀ (u : Tm) (a : Option Addr) (n c : Nat) (a' : Option Addr) (n' c' : Nat) (w : World), ArW w t a n c → ArW w u a' n' c' →
  Calls Try.prog 20 #[.agg #[.int .i64 (opT t), .string (nameT t), .int .i64 (numT t), .slice a n c], .agg #[.int .i64 (opT u), .string (nameT u), .int .i64 (numT u), .slice a' n' c']] w fun e w' => e = .returned (.int .i64 (cmpT t u)) ∧ Below w.heap.size w w'

set_option maxRecDepth 100000 in
set_option maxHeartbeats 4000000 in
theorem CompareFunc_of (l : List Tm) (hok : ∀ t ∈ l, CmpOk t) (b : Option Addr) (m d : Nat) (b' : Option Addr) (d' : Nat) (l' : List Tm) (w : World) (hG : TsW w b m d l) (hG' : TsW w b' m d' l') :
    Calls Try.prog 44 #[.slice b m d, .slice b' m d', .func (.func 20) #[] #[]] w fun e w' => e = .returned (.int .i64 (cmpTs l l')) ∧ Below w.heap.size w w' := by
  have hst : ∀ k (f g : Tm), l[k]? = some f → l'[k]? = some g → cmpTs (l.drop k) (l'.drop k) = lex (cmpT f g) (cmpTs (l.drop (k + 1)) (l'.drop (k + 1))) := fun k f g h h2 => by rw [drop_t h, drop_t h2, cmpTs]
  have he : ∀ k, m ≤ k → cmpTs (l.drop k) (l'.drop k) = 0 := fun k h => by
    rw [List.drop_eq_nil_of_le (by rw [← hG.1]; exact h), cmpTs]
  have h0 : cmpTs l l' = cmpTs (l.drop 0) (l'.drop 0) := rfl
  have hk2 : ∀ k f, l[k]? = some f → CmpOk f := fun k f h => hok f (List.mem_of_getElem? h)
  have hm : m ≤ 9223372036854775807 := by have h1 := hG.2.1; have h2 := hG.2.2.1; unfold maxLen at h2; omega
  rw [h0]
  obtain ⟨F, hF⟩ : ∃ F : Nat → Int, ∀ k, cmpTs (l.drop k) (l'.drop k) = F k := ⟨_, fun _ => rfl⟩
  simp only [hF] at hst he ⊢
  clear hF h0 hok
  have H1 := Lib.hid hG
  have H2 := Lib.hid hG'
  have Hst := Lib.hid hst
  have He := Lib.hid he
  have HK := Lib.hid hk2
  clear hG hG' hst he hk2
  go_enter Try.func44, Try.ntmps44
  go_wp2
  go_loopw [13] (fun i wr0 => ∃ (wr : World) (k : Nat), wr = wr0 ∧ k ≤ m ∧ i = .int .i64 k ∧ Below w.heap.size w wr ∧ Hid (F k = F 0)) (fun i _ => m - (intOf i).toNat)
  case atStart => exact ⟨_, 0, rfl, by omega, rfl, Below.refl _ _, Lib.hid rfl⟩
  case round =>
    obtain ⟨wr, k, rfl, hk, rfl, hB, hR⟩ := hrel
    by_cases hlt : k < m
    · obtain ⟨bb, o, t, A, M, Cc, rfl, hb, y0, y1, y2, y3, hx, hok⟩ := (TsW.b H1.out hB).at hlt
      obtain ⟨bb', o', u, A', M', Cc', rfl, hb', z0, z1, z2, z3, hx', hok'⟩ := (TsW.b H2.out hB).at hlt
      have hs1 := Lib.hid (Hst.out k t u hx hx')
      have hk0 : 0 ≤ (k : Int) := by omega
      have hk1 : (k : Int) < (m : Int) := by omega
      have hk2 : ¬ (m : Int) ≤ (k : Int) := by omega
      obtain ⟨W3, hW3, hB3, hs3, F3, G3⟩ := box2 wr (opT t) (nameT t) (numT t) A M Cc (opT u) (nameT u) (numT u) A' M' Cc'
      have cs := HK.out k t hx u A M Cc A' M' Cc' W3 (ArW.b hok hB3) (ArW.b hok' hB3)
      have B3 := bel_trans hB hB3
      obtain ⟨f0, f1, f2, f3⟩ := F3.four
      obtain ⟨h0, h1, h2, h3⟩ := G3.four
      have hA : Below wr.heap.size wr (wr.alloc (.cells #[.int .i64 (opT t), .string (nameT t), .int .i64 (numT t), .slice A M Cc] 24)) := bel_alloc (Below.refl _ _) _
      have v0 := (hA.cell hb').trans z0
      have v1 := (hA.cell hb').trans z1
      have v2 := (hA.cell hb').trans z2
      have v3 := (hA.cell hb').trans z3
      clear hx hx' hok hok' H1 H2 Hst HK hA
      generalize cmpT t u = Q at *
      generalize opT t = op at *
      generalize nameT t = nm at *
      generalize numT t = nu at *
      generalize opT u = op' at *
      generalize nameT u = nm' at *
      generalize numT u = nu' at *
      by_cases hQ : Q = 0
      · subst hQ
        have hnew : Hid (F (k + 1) = F 0) := by show _ = _; rw [← hR.out, hs1.out, zero_lex]
        clear hR hs1
        go_wp2_with (go_at_call 20; ((with_reducible refine cs.mono ?_); rintro e w4 ⟨rfl, hb4⟩))
        go_roundw
        case rel => exact ⟨_, k + 1, rfl, by omega, by go_num, bel_trans B3 hb4, hnew⟩
        case measure => simp [intOf]; omega
      · have hnew : Hid (Q = F 0) := by show _ = _; rw [← hR.out, hs1.out]; unfold lex; rw [if_pos hQ]
        have hq : (Q != 0) = true := by simpa using hQ
        clear hR hs1
        go_wp2_with (go_at_call 20; ((with_reducible refine cs.mono ?_); rintro e w4 ⟨rfl, hb4⟩))
        go_ret
        exact ⟨one hnew.out, bel_trans B3 hb4⟩
    · have hnew : Hid (0 = F 0) := by show _ = _; rw [← hR.out, He.out k (by omega)]
      clear hR
      go_wp2
      go_ret
      exact ⟨one hnew.out, hB⟩

set_option maxRecDepth 100000 in
set_option maxHeartbeats 4000000 in
theorem Compare_step (t : Tm) (hok : ∀ x ∈ argsT t, CmpOk x) : CmpOk t := by
  intro u a n c a' n' c' w hA hA'
  obtain ⟨W2, hW2, hB2, hs2, S2, T2⟩ := box2 w (opT t) (nameT t) (numT t) a n c (opT u) (nameT u) (numT u) a' n' c'
  have hn : (argsT t).length = n := (ArW.args hA).1.symm
  have hn' : (argsT u).length = n' := (ArW.args hA').1.symm
  have hTt := ArW.args hA
  have hTu := ArW.args hA'
  rw [cmpT_mk, hn, hn']
  have cT : n = n' → ∀ w', Below w.heap.size w w' → Calls Try.prog 44 #[.slice a n c, .slice a' n' c', .func (.func 20) #[] #[]] w' fun e w1 => e = .returned (.int .i64 (cmpTs (argsT t) (argsT u))) ∧ Below w'.heap.size w' w1 := by
    rintro rfl w' hb
    exact CompareFunc_of (argsT t) hok a n c a' c' (argsT u) w' (TsW.b hTt hb) (TsW.b hTu hb)
  have hlast : cmpI n n' = 0 → n = n' := fun h => by have := (linI.eq _ _).1 h; omega
  clear hA hA' hok hTt hTu hn hn'
  have lgS := Blk.lt S2
  have lgT := Blk.lt T2
  obtain ⟨s0, s1, s2, s3⟩ := S2.four
  obtain ⟨t0, t1, t2, t3⟩ := T2.four
  generalize cmpTs (argsT t) (argsT u) = R at *
  generalize opT t = op at *
  generalize nameT t = nm at *
  generalize numT t = nu at *
  generalize opT u = op' at *
  generalize nameT u = nm' at *
  generalize numT u = nu' at *
  have cI := fun (x y : Int) (w : World) => cmp_int x y w
  have cJ := fun (x y : Int) (w : World) => cmp_i64 x y w
  have cS := fun (x y : ByteArray) (w : World) => cmp_str x y w
  generalize hx0 : cmpI op op' = x0 at *
  generalize hx1 : cmpI nu nu' = x1 at *
  generalize hx2 : cmpN nm nm' = x2 at *
  generalize hx3 : cmpI (n : Int) (n' : Int) = x3 at *
  have hF : Four (W2.alloc (.cells #[.int .i64 x0, .int .i64 x1, .int .i64 x2, .int .i64 x3] 3)).drew (w.heap.size + 2) x0 x1 x2 x3 := by rw [← hs2]; exact Blk.below (Blk.new W2 _ _) (Below.refl _ _).drew
  have BF : Below W2.heap.size W2 (W2.alloc (.cells #[.int .i64 x0, .int .i64 x1, .int .i64 x2, .int .i64 x3] 3)).drew := (bel_alloc (Below.refl _ _) _).drew
  generalize hD : lex x0 (lex x1 (lex x2 x3)) = D at *
  have hl : D = 0 → n = n' := fun h => by
    rw [h] at hD
    exact hlast (lex_eq.1 (lex_eq.1 (lex_eq.1 hD).2).2).2
  clear hlast
  obtain ⟨W3, hW3⟩ : ∃ W3, (W2.alloc (.cells #[.int .i64 x0, .int .i64 x1, .int .i64 x2, .int .i64 x3] 3)).drew = W3 := ⟨_, rfl⟩
  rw [hW3] at hF BF
  have B3 := bel_trans hB2 BF
  obtain ⟨u0, u1, u2, u3⟩ := (S2.b BF).four
  obtain ⟨v0, v1, v2, v3⟩ := (T2.b BF).four
  by_cases h0 : D = 0
  · obtain rfl := hl h0
    have cX := cT rfl W3 B3
    have hnew : Hid (R = lex D R) := by show _ = _; rw [h0, zero_lex]
    have h0' : (D != 0) = false := by simpa using h0
    clear hl cT h0
    go_enter Try.func20, Try.ntmps20
    go_wp2_with fail
    go_region_held3 (fun w' => w'.cell? ⟨w.heap.size, 0, none⟩ = some (.int .i64 op) ∧ w'.cell? ⟨w.heap.size, 1, none⟩ = some (.string nm) ∧ w'.cell? ⟨w.heap.size, 2, none⟩ = some (.int .i64 nu) ∧ w'.cell? ⟨w.heap.size, 3, none⟩ = some (.slice a n c) ∧ w'.cell? ⟨w.heap.size + 1, 0, none⟩ = some (.int .i64 op') ∧ w'.cell? ⟨w.heap.size + 1, 1, none⟩ = some (.string nm') ∧ w'.cell? ⟨w.heap.size + 1, 2, none⟩ = some (.int .i64 nu') ∧ w'.cell? ⟨w.heap.size + 1, 3, none⟩ = some (.slice a' n c'))
      (first | (exact ⟨u0, u1, u2, u3, v0, v1, v2, v3⟩) | go_keep)
      (first
        | (go_at_call 41; ((with_reducible refine (cI _ _ _).mono ?_); rintro e w4 ⟨rfl, rfl⟩))
        | (go_at_call 42; ((with_reducible refine (cJ _ _ _).mono ?_); rintro e w4 ⟨rfl, rfl⟩))
        | (go_at_call 43; ((with_reducible refine (cS _ _ _).mono ?_); rintro e w4 ⟨rfl, rfl⟩))
        | (go_at_call 40; ((with_reducible refine (or_four _ _ _ _ _ _ hF).mono ?_); rintro e w4 ⟨rfl, rfl⟩)))
    go_wp2_with (go_at_call 44; ((with_reducible refine cX.mono ?_); rintro e w5 ⟨rfl, hb5⟩))
    go_ret
    exact ⟨one hnew.out, bel_trans B3 hb5⟩
  · have hnew : Hid (D = lex D R) := by show _ = _; unfold lex; rw [if_pos h0]
    have h0' : (D != 0) = true := by simpa using h0
    clear hl cT h0
    go_enter Try.func20, Try.ntmps20
    go_wp2_with fail
    go_region_held3 (fun w' => w'.cell? ⟨w.heap.size, 0, none⟩ = some (.int .i64 op) ∧ w'.cell? ⟨w.heap.size, 1, none⟩ = some (.string nm) ∧ w'.cell? ⟨w.heap.size, 2, none⟩ = some (.int .i64 nu) ∧ w'.cell? ⟨w.heap.size, 3, none⟩ = some (.slice a n c) ∧ w'.cell? ⟨w.heap.size + 1, 0, none⟩ = some (.int .i64 op') ∧ w'.cell? ⟨w.heap.size + 1, 1, none⟩ = some (.string nm') ∧ w'.cell? ⟨w.heap.size + 1, 2, none⟩ = some (.int .i64 nu') ∧ w'.cell? ⟨w.heap.size + 1, 3, none⟩ = some (.slice a' n' c'))
      (first | (exact ⟨u0, u1, u2, u3, v0, v1, v2, v3⟩) | go_keep)
      (first
        | (go_at_call 41; ((with_reducible refine (cI _ _ _).mono ?_); rintro e w4 ⟨rfl, rfl⟩))
        | (go_at_call 42; ((with_reducible refine (cJ _ _ _).mono ?_); rintro e w4 ⟨rfl, rfl⟩))
        | (go_at_call 43; ((with_reducible refine (cS _ _ _).mono ?_); rintro e w4 ⟨rfl, rfl⟩))
        | (go_at_call 40; ((with_reducible refine (or_four _ _ _ _ _ _ hF).mono ?_); rintro e w4 ⟨rfl, rfl⟩)))
    go_wp2
    go_ret
    exact ⟨one hnew.out, B3⟩
theorem Compare_any (t : Tm) : CmpOk t := Tm.ind Compare_step t
end Go.Proofs.Ytelepojpnkoelaa.T
