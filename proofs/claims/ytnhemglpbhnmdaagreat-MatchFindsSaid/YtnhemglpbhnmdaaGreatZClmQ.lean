/-
  What is proved: what the document's comparison of two claims, names of binders left out, returns.
-/
import Derived.Test.YtnhemglpbhnmdaaGreatBC
import Derived.Test.YtnhemglpbhnmdaaGreatBL
import Derived.Deep.RegionHeld3
namespace Go.Proofs.YtnhemglpbhnmdaaGreat.C
open Go.RowKit L T
set_option linter.unusedVariables false
set_option linter.unusedSimpArgs false

def ClOk (t : Cl) : Prop := ∀ (u : Cl) (k : SS) (a : Option Addr) (n c : Nat) (k' : SS) (a' : Option Addr) (n' c' : Nat) (w : World), ArWC w t k a n c → ArWC w u k' a' n' c' →
  Calls Tryz.prog 22 #[.agg #[.int .i64 (opC t), .string (nmC t), .string (soC t), .slice k.a k.n k.c, .slice a n c], .agg #[.int .i64 (opC u), .string (nmC u), .string (soC u), .slice k'.a k'.n k'.c, .slice a' n' c']] w fun e w' => e = .returned (.bool (eqC t u)) ∧ Below w.heap.size w w'
set_option maxRecDepth 100000 in
set_option maxHeartbeats 4000000 in
theorem Claims_of (l : List Cl) (hok : ∀ t ∈ l, ClOk t) (b : Option Addr) (m d : Nat) (b' : Option Addr) (m' d' : Nat) (l' : List Cl) (w : World) (hG : CsW w b m d l) (hG' : CsW w b' m' d' l') :
    Calls Tryz.prog 51 #[.slice b m d, .slice b' m' d'] w fun e w' => e = .returned (.bool (eqCs l l')) ∧ Below w.heap.size w w' := by
  by_cases hmm : m = m'
  · subst hmm
    have hst : ∀ k (f g : Cl), l[k]? = some f → l'[k]? = some g → eqCs (l.drop k) (l'.drop k) = (eqC f g && eqCs (l.drop (k + 1)) (l'.drop (k + 1))) := fun k f g h h2 => by rw [drop_c h, drop_c h2, eqCs]
    have he : ∀ k, m ≤ k → eqCs (l.drop k) (l'.drop k) = true := fun k h => by
      rw [List.drop_eq_nil_of_le (by rw [← hG.1]; exact h), List.drop_eq_nil_of_le (by rw [← hG'.1]; exact h)]; rfl
    have h0 : eqCs l l' = eqCs (l.drop 0) (l'.drop 0) := rfl
    have hk2 : ∀ k f, l[k]? = some f → ClOk f := fun k f h => hok f (List.mem_of_getElem? h)
    have hm : m ≤ 9223372036854775807 := by have h1 := hG.2.1; have h2 := hG.2.2.1; unfold maxLen at h2; omega
    rw [h0]
    obtain ⟨F, hF⟩ : ∃ F : Nat → Bool, ∀ k, eqCs (l.drop k) (l'.drop k) = F k := ⟨_, fun _ => rfl⟩
    simp only [hF] at hst he ⊢
    clear hF h0 hok
    have H1 := Lib.hid hG
    have H2 := Lib.hid hG'
    have Hst := Lib.hid hst
    have He := Lib.hid he
    have HK := Lib.hid hk2
    clear hG hG' hst he hk2
    go_enter Tryz.func51, Tryz.ntmps51
    go_wp2
    go_loopw [5] (fun i wr0 => ∃ (wr : World) (k : Nat), wr = wr0 ∧ k ≤ m ∧ i = .int .i64 k ∧ Below w.heap.size w wr ∧ Hid (F k = F 0)) (fun i _ => m - (intOf i).toNat)
    case atStart => exact ⟨_, 0, rfl, by omega, rfl, Below.refl _ _, Lib.hid rfl⟩
    case round =>
      obtain ⟨wr, k, rfl, hk, rfl, hB, hR⟩ := hrel
      by_cases hlt : k < m
      · obtain ⟨bb, o, t, kk, A, M, Cc, rfl, hb, y0, y1, y2, y3, y4, hx, hok⟩ := (CsW.b H1.out hB).at hlt
        obtain ⟨bb', o', u, kk', A', M', Cc', rfl, hb', z0, z1, z2, z3, z4, hx', hok'⟩ := (CsW.b H2.out hB).at hlt
        have hs1 := Hst.out k t u hx hx'
        have hk0 : 0 ≤ (k : Int) := by omega
        have hk1 : (k : Int) < (m : Int) := by omega
        have hBd : Below wr.heap.size wr wr.drew := (Below.refl _ _).drew
        have cs := HK.out k t hx u kk A M Cc kk' A' M' Cc' wr.drew (ArWC.b hok hBd) (ArWC.b hok' hBd)
        clear hx hx' hok hok' H1 H2 Hst HK
        generalize eqC t u = Q at *
        generalize opC t = op at *
        generalize nmC t = nm at *
        generalize soC t = nu at *
        generalize opC u = op' at *
        generalize nmC u = nm' at *
        generalize soC u = nu' at *
        cases Q with
        | true =>
          have hnew : Hid (F (k + 1) = F 0) := by show _ = _; rw [← hR.out, hs1]; rfl
          clear hR hs1
          go_wp2_with fail
          go_region_held3 (fun w' => w'.cell? ⟨bb, o + k * 5, none⟩ = some (.int .i64 op) ∧ w'.cell? ⟨bb, o + k * 5 + 1, none⟩ = some (.string nm) ∧ w'.cell? ⟨bb, o + k * 5 + 1 + 1, none⟩ = some (.string nu) ∧ w'.cell? ⟨bb, o + k * 5 + 1 + 1 + 1, none⟩ = some (.slice kk.a kk.n kk.c) ∧ w'.cell? ⟨bb, o + k * 5 + 1 + 1 + 1 + 1, none⟩ = some (.slice A M Cc) ∧ w'.cell? ⟨bb', o' + k * 5, none⟩ = some (.int .i64 op') ∧ w'.cell? ⟨bb', o' + k * 5 + 1, none⟩ = some (.string nm') ∧ w'.cell? ⟨bb', o' + k * 5 + 1 + 1, none⟩ = some (.string nu') ∧ w'.cell? ⟨bb', o' + k * 5 + 1 + 1 + 1, none⟩ = some (.slice kk'.a kk'.n kk'.c) ∧ w'.cell? ⟨bb', o' + k * 5 + 1 + 1 + 1 + 1, none⟩ = some (.slice A' M' Cc'))
            (first | go_keep | (exact ⟨(B4.cell hb).trans y0, (B4.cell hb).trans y1, (B4.cell hb).trans y2, (B4.cell hb).trans y3, (B4.cell hb).trans y4, (B4.cell hb').trans z0, (B4.cell hb').trans z1, (B4.cell hb').trans z2, (B4.cell hb').trans z3, (B4.cell hb').trans z4⟩))
            (first | (go_at_call 22; ((with_reducible refine cs.mono ?_); rintro e w4 ⟨rfl, hb4⟩; have B4 := bel_trans hBd hb4)))
          go_wp2
          go_roundw
          case rel => exact ⟨_, k + 1, rfl, by omega, by go_num, bel_trans hB B4, hnew⟩
          case measure => simp [intOf]; omega
        | false =>
          have hnew : Hid (false = F 0) := by show _ = _; rw [← hR.out, hs1]; rfl
          clear hR hs1
          go_wp2_with fail
          go_region_held3 (fun w' => w'.cell? ⟨bb, o + k * 5, none⟩ = some (.int .i64 op) ∧ w'.cell? ⟨bb, o + k * 5 + 1, none⟩ = some (.string nm) ∧ w'.cell? ⟨bb, o + k * 5 + 1 + 1, none⟩ = some (.string nu) ∧ w'.cell? ⟨bb, o + k * 5 + 1 + 1 + 1, none⟩ = some (.slice kk.a kk.n kk.c) ∧ w'.cell? ⟨bb, o + k * 5 + 1 + 1 + 1 + 1, none⟩ = some (.slice A M Cc) ∧ w'.cell? ⟨bb', o' + k * 5, none⟩ = some (.int .i64 op') ∧ w'.cell? ⟨bb', o' + k * 5 + 1, none⟩ = some (.string nm') ∧ w'.cell? ⟨bb', o' + k * 5 + 1 + 1, none⟩ = some (.string nu') ∧ w'.cell? ⟨bb', o' + k * 5 + 1 + 1 + 1, none⟩ = some (.slice kk'.a kk'.n kk'.c) ∧ w'.cell? ⟨bb', o' + k * 5 + 1 + 1 + 1 + 1, none⟩ = some (.slice A' M' Cc'))
            (first | go_keep | (exact ⟨(B4.cell hb).trans y0, (B4.cell hb).trans y1, (B4.cell hb).trans y2, (B4.cell hb).trans y3, (B4.cell hb).trans y4, (B4.cell hb').trans z0, (B4.cell hb').trans z1, (B4.cell hb').trans z2, (B4.cell hb').trans z3, (B4.cell hb').trans z4⟩))
            (first | (go_at_call 22; ((with_reducible refine cs.mono ?_); rintro e w4 ⟨rfl, hb4⟩; have B4 := bel_trans hBd hb4)))
          go_wp2
          go_ret
          exact ⟨oneB hnew.out, bel_trans hB B4⟩
      · have hnew : Hid (true = F 0) := by show _ = _; rw [← hR.out, He.out k (by omega)]
        clear hR
        go_wp2
        go_ret
        exact ⟨oneB hnew.out, hB⟩
  · have hf : Hid (false = eqCs l l') := (eqCs_len (by rw [← hG.1, ← hG'.1]; exact hmm)).symm
    have n1 : ((m : Int) != (m' : Int)) = true := by simp; omega
    clear hG hG' hmm hok
    go_enter Tryz.func51, Tryz.ntmps51
    go_wp2
    go_ret
    exact ⟨oneB hf.out, Below.refl _ _⟩

set_option maxRecDepth 100000 in
set_option maxHeartbeats 8000000 in
theorem Claim_step (t : Cl) (hok : ∀ x ∈ subC t, ClOk x) : ClOk t := by
  intro u k a n c k' a' n' c' w hA hA'
  obtain ⟨W2, hW2, hB2, hs2, S2, T2⟩ := cbox2 w (opC t) (nmC t) (soC t) k a n c (opC u) (nmC u) (soC u) k' a' n' c'
  have cT := fun (w' : World) (hb : Below W2.heap.size W2 w') => Terms_any (tsC t) k.a k.n k.c k'.a k'.n k'.c (tsC u) w' (TsW.b (ArWC.terms (ArWC.b hA hB2)) hb) (TsW.b (ArWC.terms (ArWC.b hA' hB2)) hb)
  have cL := fun (w' : World) (hb : Below W2.heap.size W2 w') => Claims_of (subC t) hok a n c a' n' c' (subC u) w' (CsW.b (ArWC.subs (ArWC.b hA hB2)) hb) (CsW.b (ArWC.subs (ArWC.b hA' hB2)) hb)
  rw [eqC_mk]
  have HS := Lib.hid S2
  have HT := Lib.hid T2
  obtain ⟨s0, s1, s2, s3, s4⟩ := S2.five
  obtain ⟨t0, t1, t2, t3, t4⟩ := T2.five
  clear hA hA' hok S2 T2
  generalize eqCs (subC t) (subC u) = R at *
  generalize eqTs (tsC t) (tsC u) = Q at *
  generalize opC t = op at *
  generalize nmC t = nm at *
  generalize soC t = so at *
  generalize opC u = op' at *
  generalize nmC u = nm' at *
  generalize soC u = so' at *
  have hBd : Below W2.heap.size W2 W2 := Below.refl _ _
  cases h1 : op == op'
  · have g1 : (op = op') = False := by simpa using h1
    go_enter Tryz.func22, Tryz.ntmps22
    go_wp2_with (first
      | (go_at_call 35; ((with_reducible refine (cT _ hBd).mono ?_); rintro e w3 ⟨rfl, hb3⟩; obtain ⟨u0, u1, u2, u3, u4⟩ := (CBox.b HS.out hb3).five; obtain ⟨v0, v1, v2, v3, v4⟩ := (CBox.b HT.out hb3).five; have B3 := bel_trans hB2 hb3))
      | (go_at_call 51; ((with_reducible refine (cL _ hb3).mono ?_); rintro e w4 ⟨rfl, hb4⟩; have B4 := bel_trans B3 hb4)))
    go_ret
    first | exact ⟨rfl, B4⟩ | exact ⟨rfl, B3⟩ | exact ⟨rfl, hB2⟩
  · obtain rfl : op = op' := by simpa using h1
    cases h2 : so.toList == so'.toList
    · have g2 : (so.toList = so'.toList) = False := by simpa using h2
      go_enter Tryz.func22, Tryz.ntmps22
      go_wp2_with (first
        | (go_at_call 35; ((with_reducible refine (cT _ hBd).mono ?_); rintro e w3 ⟨rfl, hb3⟩; obtain ⟨u0, u1, u2, u3, u4⟩ := (CBox.b HS.out hb3).five; obtain ⟨v0, v1, v2, v3, v4⟩ := (CBox.b HT.out hb3).five; have B3 := bel_trans hB2 hb3))
        | (go_at_call 51; ((with_reducible refine (cL _ hb3).mono ?_); rintro e w4 ⟨rfl, hb4⟩; have B4 := bel_trans B3 hb4)))
      go_ret
      first | exact ⟨rfl, B4⟩ | exact ⟨rfl, B3⟩ | exact ⟨rfl, hB2⟩
    · have g2 : (so.toList = so'.toList) = True := by simpa using h2
      by_cases h4 : op = 11
      · subst h4
        cases Q
        all_goals
          go_enter Tryz.func22, Tryz.ntmps22
          go_wp2_with (first
            | (go_at_call 35; ((with_reducible refine (cT _ hBd).mono ?_); rintro e w3 ⟨rfl, hb3⟩; obtain ⟨u0, u1, u2, u3, u4⟩ := (CBox.b HS.out hb3).five; obtain ⟨v0, v1, v2, v3, v4⟩ := (CBox.b HT.out hb3).five; have B3 := bel_trans hB2 hb3))
            | (go_at_call 51; ((with_reducible refine (cL _ hb3).mono ?_); rintro e w4 ⟨rfl, hb4⟩; have B4 := bel_trans B3 hb4)))
          go_ret
          first | exact ⟨rfl, B4⟩ | exact ⟨rfl, B3⟩ | exact ⟨rfl, hB2⟩
      · by_cases h5 : op = 12
        · subst h5
          cases Q
          all_goals
            go_enter Tryz.func22, Tryz.ntmps22
            go_wp2_with (first
              | (go_at_call 35; ((with_reducible refine (cT _ hBd).mono ?_); rintro e w3 ⟨rfl, hb3⟩; obtain ⟨u0, u1, u2, u3, u4⟩ := (CBox.b HS.out hb3).five; obtain ⟨v0, v1, v2, v3, v4⟩ := (CBox.b HT.out hb3).five; have B3 := bel_trans hB2 hb3))
              | (go_at_call 51; ((with_reducible refine (cL _ hb3).mono ?_); rintro e w4 ⟨rfl, hb4⟩; have B4 := bel_trans B3 hb4)))
            go_ret
            first | exact ⟨rfl, B4⟩ | exact ⟨rfl, B3⟩ | exact ⟨rfl, hB2⟩
        · have g4 : (op = 11) = False := by simpa using h4
          have g5 : (op = 12) = False := by simpa using h5
          have b4 : (op == 11) = false := by simpa using h4
          have b5 : (op == 12) = false := by simpa using h5
          have c4 : (op != 11) = true := by simpa using h4
          have c5 : (op != 12) = true := by simpa using h5
          rw [b4, b5]
          cases h3 : nm.toList == nm'.toList
          · have g3 : (nm.toList = nm'.toList) = False := by simpa using h3
            go_enter Tryz.func22, Tryz.ntmps22
            go_wp2_with (first
              | (go_at_call 35; ((with_reducible refine (cT _ hBd).mono ?_); rintro e w3 ⟨rfl, hb3⟩; obtain ⟨u0, u1, u2, u3, u4⟩ := (CBox.b HS.out hb3).five; obtain ⟨v0, v1, v2, v3, v4⟩ := (CBox.b HT.out hb3).five; have B3 := bel_trans hB2 hb3))
              | (go_at_call 51; ((with_reducible refine (cL _ hb3).mono ?_); rintro e w4 ⟨rfl, hb4⟩; have B4 := bel_trans B3 hb4)))
            go_ret
            first | exact ⟨rfl, B4⟩ | exact ⟨rfl, B3⟩ | exact ⟨rfl, hB2⟩
          · have g3 : (nm.toList = nm'.toList) = True := by simpa using h3
            cases Q
            all_goals
              go_enter Tryz.func22, Tryz.ntmps22
              go_wp2_with (first
                | (go_at_call 35; ((with_reducible refine (cT _ hBd).mono ?_); rintro e w3 ⟨rfl, hb3⟩; obtain ⟨u0, u1, u2, u3, u4⟩ := (CBox.b HS.out hb3).five; obtain ⟨v0, v1, v2, v3, v4⟩ := (CBox.b HT.out hb3).five; have B3 := bel_trans hB2 hb3))
                | (go_at_call 51; ((with_reducible refine (cL _ hb3).mono ?_); rintro e w4 ⟨rfl, hb4⟩; have B4 := bel_trans B3 hb4)))
              go_ret
              first | exact ⟨rfl, B4⟩ | exact ⟨rfl, B3⟩ | exact ⟨rfl, hB2⟩
theorem Claim_any (t : Cl) : ClOk t := Cl.ind Claim_step t
end Go.Proofs.YtnhemglpbhnmdaaGreat.C
