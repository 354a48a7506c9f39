/-
  What is proved: what the document's comparison of two claims, names of binders left out, returns.
  What is proved: the document's Same of two claims.
  What is proved: what the document's comparison of two claims, names of binders included, returns.
  What is proved: the document's comparison of two lists of claims; whether claims are few and small; the opener of a list of claims.
-/
import Derived.Test.YtjjfbgadpgckeaaGreatBC
import Derived.Test.YtjjfbgadpgckeaaGreatBL
import Derived.Deep.RegionHeld3
namespace Go.Proofs.YtjjfbgadpgckeaaGreat.C
open Go.RowKit L T
set_option linter.unusedVariables false
set_option linter.unusedSimpArgs false

def ClOk (t : Cl) : Prop := ∀ (u : Cl) (k : SS) (a : Option Addr) (n c : Nat) (k' : SS) (a' : Option Addr) (n' c' : Nat) (w : World), ArWC w t k a n c → ArWC w u k' a' n' c' →
  Calls Tryz.prog 57 #[.agg #[.int .i64 (opC t), .string (nmC t), .string (soC t), .slice k.a k.n k.c, .slice a n c], .agg #[.int .i64 (opC u), .string (nmC u), .string (soC u), .slice k'.a k'.n k'.c, .slice a' n' c']] w fun e w' => e = .returned (.bool (eqC t u)) ∧ Below w.heap.size w w'
set_option maxRecDepth 100000 in
set_option maxHeartbeats 4000000 in
theorem Claims_of (l : List Cl) (hok : ∀ t ∈ l, ClOk t) (b : Option Addr) (m d : Nat) (b' : Option Addr) (m' d' : Nat) (l' : List Cl) (w : World) (hG : CsW w b m d l) (hG' : CsW w b' m' d' l') :
    Calls Tryz.prog 26 #[.slice b m d, .slice b' m' d'] w fun e w' => e = .returned (.bool (eqCs l l')) ∧ Below w.heap.size w w' := by
  by_cases hmm : m = m'
  · subst hmm
    have hst : ∀ k (f g : Cl), l[k]? = some f → l'[k]? = some g → eqCs (l.drop k) (l'.drop k) = (eqC f g && eqCs (l.drop (k + 1)) (l'.drop (k + 1))) := fun k f g h h2 => by rw [drop_c h, drop_c h2, eqCs]
    have he : ∀ k, m ≤ k → eqCs (l.drop k) (l'.drop k) = true := fun k h => by
      rw [List.drop_eq_nil_of_le (by rw [← hG.1]; exact h), List.drop_eq_nil_of_le (by rw [← hG'.1]; exact h)]; rfl
    have h0 : eqCs l l' = eqCs (l.drop 0) (l'.drop 0) := rfl
    have hk2 : ∀ k f, l[k]? = some f → ClOk f := fun k f h => hok f (List.mem_of_getElem? h)
    have hm : m ≤ 9223372036854775807 := by have h1 := hG.2.1; have h2 := hG.2.2.1; unfold maxLen at h2; omega
    rw [h0]
    obtain ⟨F, hF⟩ : ∃ F : Nat → Bool, ∀ k, eqCs (l.drop k) (l'.drop k) = F k := ⟨_, fun _ => rfl⟩
    simp only [hF] at hst he ⊢
    clear hF h0 hok
    have H1 := Lib.hid hG
    have H2 := Lib.hid hG'
    have Hst := Lib.hid hst
    have He := Lib.hid he
    have HK := Lib.hid hk2
    clear hG hG' hst he hk2
    go_enter Tryz.func26, Tryz.ntmps26
    go_wp2
    go_loopw [5] (fun i wr0 => ∃ (wr : World) (k : Nat), wr = wr0 ∧ k ≤ m ∧ i = .int .i64 k ∧ Below w.heap.size w wr ∧ Hid (F k = F 0)) (fun i _ => m - (intOf i).toNat)
    case atStart => exact ⟨_, 0, rfl, by omega, rfl, Below.refl _ _, Lib.hid rfl⟩
    case round =>
      obtain ⟨wr, k, rfl, hk, rfl, hB, hR⟩ := hrel
      by_cases hlt : k < m
      · obtain ⟨bb, o, t, kk, A, M, Cc, rfl, hb, y0, y1, y2, y3, y4, hx, hok⟩ := (CsW.b H1.out hB).at hlt
        obtain ⟨bb', o', u, kk', A', M', Cc', rfl, hb', z0, z1, z2, z3, z4, hx', hok'⟩ := (CsW.b H2.out hB).at hlt
        have hs1 := Hst.out k t u hx hx'
        have hk0 : 0 ≤ (k : Int) := by omega
        have hk1 : (k : Int) < (m : Int) := by omega
        have hBd : Below wr.heap.size wr wr.drew := (Below.refl _ _).drew
        have cs := HK.out k t hx u kk A M Cc kk' A' M' Cc' wr.drew (ArWC.b hok hBd) (ArWC.b hok' hBd)
        clear hx hx' hok hok' H1 H2 Hst HK
        generalize eqC t u = Q at *
        generalize opC t = op at *
        generalize nmC t = nm at *
        generalize soC t = nu at *
        generalize opC u = op' at *
        generalize nmC u = nm' at *
        generalize soC u = nu' at *
        cases Q with
        | true =>
          have hnew : Hid (F (k + 1) = F 0) := by show _ = _; rw [← hR.out, hs1]; rfl
          clear hR hs1
          go_wp2_with fail
          go_region_held3 (fun w' => w'.cell? ⟨bb, o + k * 5, none⟩ = some (.int .i64 op) ∧ w'.cell? ⟨bb, o + k * 5 + 1, none⟩ = some (.string nm) ∧ w'.cell? ⟨bb, o + k * 5 + 1 + 1, none⟩ = some (.string nu) ∧ w'.cell? ⟨bb, o + k * 5 + 1 + 1 + 1, none⟩ = some (.slice kk.a kk.n kk.c) ∧ w'.cell? ⟨bb, o + k * 5 + 1 + 1 + 1 + 1, none⟩ = some (.slice A M Cc) ∧ w'.cell? ⟨bb', o' + k * 5, none⟩ = some (.int .i64 op') ∧ w'.cell? ⟨bb', o' + k * 5 + 1, none⟩ = some (.string nm') ∧ w'.cell? ⟨bb', o' + k * 5 + 1 + 1, none⟩ = some (.string nu') ∧ w'.cell? ⟨bb', o' + k * 5 + 1 + 1 + 1, none⟩ = some (.slice kk'.a kk'.n kk'.c) ∧ w'.cell? ⟨bb', o' + k * 5 + 1 + 1 + 1 + 1, none⟩ = some (.slice A' M' Cc'))
            (first | go_keep | (exact ⟨(B4.cell hb).trans y0, (B4.cell hb).trans y1, (B4.cell hb).trans y2, (B4.cell hb).trans y3, (B4.cell hb).trans y4, (B4.cell hb').trans z0, (B4.cell hb').trans z1, (B4.cell hb').trans z2, (B4.cell hb').trans z3, (B4.cell hb').trans z4⟩))
            (first | (go_at_call 57; ((with_reducible refine cs.mono ?_); rintro e w4 ⟨rfl, hb4⟩; have B4 := bel_trans hBd hb4)))
          go_wp2
          go_roundw
          case rel => exact ⟨_, k + 1, rfl, by omega, by go_num, bel_trans hB B4, hnew⟩
          case measure => simp [intOf]; omega
        | false =>
          have hnew : Hid (false = F 0) := by show _ = _; rw [← hR.out, hs1]; rfl
          clear hR hs1
          go_wp2_with fail
          go_region_held3 (fun w' => w'.cell? ⟨bb, o + k * 5, none⟩ = some (.int .i64 op) ∧ w'.cell? ⟨bb, o + k * 5 + 1, none⟩ = some (.string nm) ∧ w'.cell? ⟨bb, o + k * 5 + 1 + 1, none⟩ = some (.string nu) ∧ w'.cell? ⟨bb, o + k * 5 + 1 + 1 + 1, none⟩ = some (.slice kk.a kk.n kk.c) ∧ w'.cell? ⟨bb, o + k * 5 + 1 + 1 + 1 + 1, none⟩ = some (.slice A M Cc) ∧ w'.cell? ⟨bb', o' + k * 5, none⟩ = some (.int .i64 op') ∧ w'.cell? ⟨bb', o' + k * 5 + 1, none⟩ = some (.string nm') ∧ w'.cell? ⟨bb', o' + k * 5 + 1 + 1, none⟩ = some (.string nu') ∧ w'.cell? ⟨bb', o' + k * 5 + 1 + 1 + 1, none⟩ = some (.slice kk'.a kk'.n kk'.c) ∧ w'.cell? ⟨bb', o' + k * 5 + 1 + 1 + 1 + 1, none⟩ = some (.slice A' M' Cc'))
            (first | go_keep | (exact ⟨(B4.cell hb).trans y0, (B4.cell hb).trans y1, (B4.cell hb).trans y2, (B4.cell hb).trans y3, (B4.cell hb).trans y4, (B4.cell hb').trans z0, (B4.cell hb').trans z1, (B4.cell hb').trans z2, (B4.cell hb').trans z3, (B4.cell hb').trans z4⟩))
            (first | (go_at_call 57; ((with_reducible refine cs.mono ?_); rintro e w4 ⟨rfl, hb4⟩; have B4 := bel_trans hBd hb4)))
          go_wp2
          go_ret
          exact ⟨oneB hnew.out, bel_trans hB B4⟩
      · have hnew : Hid (true = F 0) := by show _ = _; rw [← hR.out, He.out k (by omega)]
        clear hR
        go_wp2
        go_ret
        exact ⟨oneB hnew.out, hB⟩
  · have hf : Hid (false = eqCs l l') := (eqCs_len (by rw [← hG.1, ← hG'.1]; exact hmm)).symm
    have n1 : ((m : Int) != (m' : Int)) = true := by simp; omega
    clear hG hG' hmm hok
    go_enter Tryz.func26, Tryz.ntmps26
    go_wp2
    go_ret
    exact ⟨oneB hf.out, Below.refl _ _⟩

set_option maxRecDepth 100000 in
set_option maxHeartbeats 8000000 in
theorem Claim_step (t : Cl) (hok : ∀ x ∈ subC t, ClOk x) : ClOk t := by
  intro u k a n c k' a' n' c' w hA hA'
  obtain ⟨W2, hW2, hB2, hs2, S2, T2⟩ := cbox2 w (opC t) (nmC t) (soC t) k a n c (opC u) (nmC u) (soC u) k' a' n' c'
  have cT := fun (w' : World) (hb : Below W2.heap.size W2 w') => Terms_any (tsC t) k.a k.n k.c k'.a k'.n k'.c (tsC u) w' (TsW.b (ArWC.terms (ArWC.b hA hB2)) hb) (TsW.b (ArWC.terms (ArWC.b hA' hB2)) hb)
  have cL := fun (w' : World) (hb : Below W2.heap.size W2 w') => Claims_of (subC t) hok a n c a' n' c' (subC u) w' (CsW.b (ArWC.subs (ArWC.b hA hB2)) hb) (CsW.b (ArWC.subs (ArWC.b hA' hB2)) hb)
  rw [eqC_mk]
  have HS := Lib.hid S2
  have HT := Lib.hid T2
  obtain ⟨s0, s1, s2, s3, s4⟩ := S2.five
  obtain ⟨t0, t1, t2, t3, t4⟩ := T2.five
  clear hA hA' hok S2 T2
  generalize eqCs (subC t) (subC u) = R at *
  generalize eqTs (tsC t) (tsC u) = Q at *
  generalize opC t = op at *
  generalize nmC t = nm at *
  generalize soC t = so at *
  generalize opC u = op' at *
  generalize nmC u = nm' at *
  generalize soC u = so' at *
  have hBd : Below W2.heap.size W2 W2 := Below.refl _ _
  cases h1 : op == op'
  · have g1 : (op = op') = False := by simpa using h1
    go_enter Tryz.func57, Tryz.ntmps57
    go_wp2_with (first
      | (go_at_call 15; ((with_reducible refine (cT _ hBd).mono ?_); rintro e w3 ⟨rfl, hb3⟩; obtain ⟨u0, u1, u2, u3, u4⟩ := (CBox.b HS.out hb3).five; obtain ⟨v0, v1, v2, v3, v4⟩ := (CBox.b HT.out hb3).five; have B3 := bel_trans hB2 hb3))
      | (go_at_call 26; ((with_reducible refine (cL _ hb3).mono ?_); rintro e w4 ⟨rfl, hb4⟩; have B4 := bel_trans B3 hb4)))
    go_ret
    first | exact ⟨rfl, B4⟩ | exact ⟨rfl, B3⟩ | exact ⟨rfl, hB2⟩
  · obtain rfl : op = op' := by simpa using h1
    cases h2 : so.toList == so'.toList
    · have g2 : (so.toList = so'.toList) = False := by simpa using h2
      go_enter Tryz.func57, Tryz.ntmps57
      go_wp2_with (first
        | (go_at_call 15; ((with_reducible refine (cT _ hBd).mono ?_); rintro e w3 ⟨rfl, hb3⟩; obtain ⟨u0, u1, u2, u3, u4⟩ := (CBox.b HS.out hb3).five; obtain ⟨v0, v1, v2, v3, v4⟩ := (CBox.b HT.out hb3).five; have B3 := bel_trans hB2 hb3))
        | (go_at_call 26; ((with_reducible refine (cL _ hb3).mono ?_); rintro e w4 ⟨rfl, hb4⟩; have B4 := bel_trans B3 hb4)))
      go_ret
      first | exact ⟨rfl, B4⟩ | exact ⟨rfl, B3⟩ | exact ⟨rfl, hB2⟩
    · have g2 : (so.toList = so'.toList) = True := by simpa using h2
      by_cases h4 : op = 11
      · subst h4
        cases Q
        all_goals
          go_enter Tryz.func57, Tryz.ntmps57
          go_wp2_with (first
            | (go_at_call 15; ((with_reducible refine (cT _ hBd).mono ?_); rintro e w3 ⟨rfl, hb3⟩; obtain ⟨u0, u1, u2, u3, u4⟩ := (CBox.b HS.out hb3).five; obtain ⟨v0, v1, v2, v3, v4⟩ := (CBox.b HT.out hb3).five; have B3 := bel_trans hB2 hb3))
            | (go_at_call 26; ((with_reducible refine (cL _ hb3).mono ?_); rintro e w4 ⟨rfl, hb4⟩; have B4 := bel_trans B3 hb4)))
          go_ret
          first | exact ⟨rfl, B4⟩ | exact ⟨rfl, B3⟩ | exact ⟨rfl, hB2⟩
      · by_cases h5 : op = 12
        · subst h5
          cases Q
          all_goals
            go_enter Tryz.func57, Tryz.ntmps57
            go_wp2_with (first
              | (go_at_call 15; ((with_reducible refine (cT _ hBd).mono ?_); rintro e w3 ⟨rfl, hb3⟩; obtain ⟨u0, u1, u2, u3, u4⟩ := (CBox.b HS.out hb3).five; obtain ⟨v0, v1, v2, v3, v4⟩ := (CBox.b HT.out hb3).five; have B3 := bel_trans hB2 hb3))
              | (go_at_call 26; ((with_reducible refine (cL _ hb3).mono ?_); rintro e w4 ⟨rfl, hb4⟩; have B4 := bel_trans B3 hb4)))
            go_ret
            first | exact ⟨rfl, B4⟩ | exact ⟨rfl, B3⟩ | exact ⟨rfl, hB2⟩
        · have g4 : (op = 11) = False := by simpa using h4
          have g5 : (op = 12) = False := by simpa using h5
          have b4 : (op == 11) = false := by simpa using h4
          have b5 : (op == 12) = false := by simpa using h5
          have c4 : (op != 11) = true := by simpa using h4
          have c5 : (op != 12) = true := by simpa using h5
          rw [b4, b5]
          cases h3 : nm.toList == nm'.toList
          · have g3 : (nm.toList = nm'.toList) = False := by simpa using h3
            go_enter Tryz.func57, Tryz.ntmps57
            go_wp2_with (first
              | (go_at_call 15; ((with_reducible refine (cT _ hBd).mono ?_); rintro e w3 ⟨rfl, hb3⟩; obtain ⟨u0, u1, u2, u3, u4⟩ := (CBox.b HS.out hb3).five; obtain ⟨v0, v1, v2, v3, v4⟩ := (CBox.b HT.out hb3).five; have B3 := bel_trans hB2 hb3))
              | (go_at_call 26; ((with_reducible refine (cL _ hb3).mono ?_); rintro e w4 ⟨rfl, hb4⟩; have B4 := bel_trans B3 hb4)))
            go_ret
            first | exact ⟨rfl, B4⟩ | exact ⟨rfl, B3⟩ | exact ⟨rfl, hB2⟩
          · have g3 : (nm.toList = nm'.toList) = True := by simpa using h3
            cases Q
            all_goals
              go_enter Tryz.func57, Tryz.ntmps57
              go_wp2_with (first
                | (go_at_call 15; ((with_reducible refine (cT _ hBd).mono ?_); rintro e w3 ⟨rfl, hb3⟩; obtain ⟨u0, u1, u2, u3, u4⟩ := (CBox.b HS.out hb3).five; obtain ⟨v0, v1, v2, v3, v4⟩ := (CBox.b HT.out hb3).five; have B3 := bel_trans hB2 hb3))
                | (go_at_call 26; ((with_reducible refine (cL _ hb3).mono ?_); rintro e w4 ⟨rfl, hb4⟩; have B4 := bel_trans B3 hb4)))
              go_ret
              first | exact ⟨rfl, B4⟩ | exact ⟨rfl, B3⟩ | exact ⟨rfl, hB2⟩
theorem Claim_any (t : Cl) : ClOk t := Cl.ind Claim_step t
end Go.Proofs.YtjjfbgadpgckeaaGreat.C
namespace Go.Proofs.YtjjfbgadpgckeaaGreat.C
open Go.RowKit L T
set_option linter.unusedVariables false
set_option linter.unusedSimpArgs false

set_option maxHeartbeats 1000000 in
theorem refSame_any (t u : Cl) (k : SS) (a : Option Addr) (n c : Nat) (k' : SS) (a' : Option Addr) (n' c' : Nat) (w : World) (hA : ArWC w t k a n c) (hA' : ArWC w u k' a' n' c') :
    Calls Tryz.prog 95 #[.agg #[.int .i64 (opC t), .string (nmC t), .string (soC t), .slice k.a k.n k.c, .slice a n c], .agg #[.int .i64 (opC u), .string (nmC u), .string (soC u), .slice k'.a k'.n k'.c, .slice a' n' c']] w fun e w' => e = .returned (.bool (eqC t u)) ∧ Below w.heap.size w w' := by
  obtain ⟨W2, hW2, hB2, hs2, S2, T2⟩ := cbox2 w (opC t) (nmC t) (soC t) k a n c (opC u) (nmC u) (soC u) k' a' n' c'
  have cC := Claim_any t u k a n c k' a' n' c' W2 (ArWC.b hA hB2) (ArWC.b hA' hB2)
  obtain ⟨s0, s1, s2, s3, s4⟩ := S2.five
  obtain ⟨t0, t1, t2, t3, t4⟩ := T2.five
  clear hA hA' S2 T2
  generalize eqC t u = R at *
  generalize opC t = op at *
  generalize nmC t = nm at *
  generalize soC t = so at *
  generalize opC u = op' at *
  generalize nmC u = nm' at *
  generalize soC u = so' at *
  go_enter Tryz.func95, Tryz.ntmps95
  go_wp2_with (go_at_call 57; ((with_reducible refine cC.mono ?_); rintro e w3 ⟨rfl, hb3⟩))
  go_ret
  exact ⟨rfl, bel_trans hB2 hb3⟩
end Go.Proofs.YtjjfbgadpgckeaaGreat.C
namespace Go.Proofs.YtjjfbgadpgckeaaGreat.C
open Go.RowKit L T
set_option linter.unusedVariables false
set_option linter.unusedSimpArgs false

def ExOk (t : Cl) : Prop := ∀ (u : Cl) (k : SS) (a : Option Addr) (n c : Nat) (k' : SS) (a' : Option Addr) (n' c' : Nat) (w : World), ArWC w t k a n c → ArWC w u k' a' n' c' →
  Calls Tryz.prog 48 #[.agg #[.int .i64 (opC t), .string (nmC t), .string (soC t), .slice k.a k.n k.c, .slice a n c], .agg #[.int .i64 (opC u), .string (nmC u), .string (soC u), .slice k'.a k'.n k'.c, .slice a' n' c']] w fun e w' => e = .returned (.bool (exC t u)) ∧ Below w.heap.size w w'
set_option maxRecDepth 100000 in
set_option maxHeartbeats 4000000 in
theorem Exacts_of (l : List Cl) (hok : ∀ t ∈ l, ExOk t) (b : Option Addr) (m d : Nat) (b' : Option Addr) (m' d' : Nat) (l' : List Cl) (w : World) (hG : CsW w b m d l) (hG' : CsW w b' m' d' l') :
    Calls Tryz.prog 86 #[.slice b m d, .slice b' m' d'] w fun e w' => e = .returned (.bool (exCs l l')) ∧ Below w.heap.size w w' := by
  by_cases hmm : m = m'
  · subst hmm
    have hst : ∀ k (f g : Cl), l[k]? = some f → l'[k]? = some g → exCs (l.drop k) (l'.drop k) = (exC f g && exCs (l.drop (k + 1)) (l'.drop (k + 1))) := fun k f g h h2 => by rw [drop_c h, drop_c h2, exCs]
    have he : ∀ k, m ≤ k → exCs (l.drop k) (l'.drop k) = true := fun k h => by
      rw [List.drop_eq_nil_of_le (by rw [← hG.1]; exact h), List.drop_eq_nil_of_le (by rw [← hG'.1]; exact h)]; rfl
    have h0 : exCs l l' = exCs (l.drop 0) (l'.drop 0) := rfl
    have hk2 : ∀ k f, l[k]? = some f → ExOk f := fun k f h => hok f (List.mem_of_getElem? h)
    have hm : m ≤ 9223372036854775807 := by have h1 := hG.2.1; have h2 := hG.2.2.1; unfold maxLen at h2; omega
    rw [h0]
    obtain ⟨F, hF⟩ : ∃ F : Nat → Bool, ∀ k, exCs (l.drop k) (l'.drop k) = F k := ⟨_, fun _ => rfl⟩
    simp only [hF] at hst he ⊢
    clear hF h0 hok
    have H1 := Lib.hid hG
    have H2 := Lib.hid hG'
    have Hst := Lib.hid hst
    have He := Lib.hid he
    have HK := Lib.hid hk2
    clear hG hG' hst he hk2
    go_enter Tryz.func86, Tryz.ntmps86
    go_wp2
    go_loopw [5] (fun i wr0 => ∃ (wr : World) (k : Nat), wr = wr0 ∧ k ≤ m ∧ i = .int .i64 k ∧ Below w.heap.size w wr ∧ Hid (F k = F 0)) (fun i _ => m - (intOf i).toNat)
    case atStart => exact ⟨_, 0, rfl, by omega, rfl, Below.refl _ _, Lib.hid rfl⟩
    case round =>
      obtain ⟨wr, k, rfl, hk, rfl, hB, hR⟩ := hrel
      by_cases hlt : k < m
      · obtain ⟨bb, o, t, kk, A, M, Cc, rfl, hb, y0, y1, y2, y3, y4, hx, hok⟩ := (CsW.b H1.out hB).at hlt
        obtain ⟨bb', o', u, kk', A', M', Cc', rfl, hb', z0, z1, z2, z3, z4, hx', hok'⟩ := (CsW.b H2.out hB).at hlt
        have hs1 := Hst.out k t u hx hx'
        have hk0 : 0 ≤ (k : Int) := by omega
        have hk1 : (k : Int) < (m : Int) := by omega
        have hBd : Below wr.heap.size wr wr.drew := (Below.refl _ _).drew
        have cs := HK.out k t hx u kk A M Cc kk' A' M' Cc' wr.drew (ArWC.b hok hBd) (ArWC.b hok' hBd)
        clear hx hx' hok hok' H1 H2 Hst HK
        generalize exC t u = Q at *
        generalize opC t = op at *
        generalize nmC t = nm at *
        generalize soC t = nu at *
        generalize opC u = op' at *
        generalize nmC u = nm' at *
        generalize soC u = nu' at *
        cases Q with
        | true =>
          have hnew : Hid (F (k + 1) = F 0) := by show _ = _; rw [← hR.out, hs1]; rfl
          clear hR hs1
          go_wp2_with fail
          go_region_held3 (fun w' => w'.cell? ⟨bb, o + k * 5, none⟩ = some (.int .i64 op) ∧ w'.cell? ⟨bb, o + k * 5 + 1, none⟩ = some (.string nm) ∧ w'.cell? ⟨bb, o + k * 5 + 1 + 1, none⟩ = some (.string nu) ∧ w'.cell? ⟨bb, o + k * 5 + 1 + 1 + 1, none⟩ = some (.slice kk.a kk.n kk.c) ∧ w'.cell? ⟨bb, o + k * 5 + 1 + 1 + 1 + 1, none⟩ = some (.slice A M Cc) ∧ w'.cell? ⟨bb', o' + k * 5, none⟩ = some (.int .i64 op') ∧ w'.cell? ⟨bb', o' + k * 5 + 1, none⟩ = some (.string nm') ∧ w'.cell? ⟨bb', o' + k * 5 + 1 + 1, none⟩ = some (.string nu') ∧ w'.cell? ⟨bb', o' + k * 5 + 1 + 1 + 1, none⟩ = some (.slice kk'.a kk'.n kk'.c) ∧ w'.cell? ⟨bb', o' + k * 5 + 1 + 1 + 1 + 1, none⟩ = some (.slice A' M' Cc'))
            (first | go_keep | (exact ⟨(B4.cell hb).trans y0, (B4.cell hb).trans y1, (B4.cell hb).trans y2, (B4.cell hb).trans y3, (B4.cell hb).trans y4, (B4.cell hb').trans z0, (B4.cell hb').trans z1, (B4.cell hb').trans z2, (B4.cell hb').trans z3, (B4.cell hb').trans z4⟩))
            (first | (go_at_call 48; ((with_reducible refine cs.mono ?_); rintro e w4 ⟨rfl, hb4⟩; have B4 := bel_trans hBd hb4)))
          go_wp2
          go_roundw
          case rel => exact ⟨_, k + 1, rfl, by omega, by go_num, bel_trans hB B4, hnew⟩
          case measure => simp [intOf]; omega
        | false =>
          have hnew : Hid (false = F 0) := by show _ = _; rw [← hR.out, hs1]; rfl
          clear hR hs1
          go_wp2_with fail
          go_region_held3 (fun w' => w'.cell? ⟨bb, o + k * 5, none⟩ = some (.int .i64 op) ∧ w'.cell? ⟨bb, o + k * 5 + 1, none⟩ = some (.string nm) ∧ w'.cell? ⟨bb, o + k * 5 + 1 + 1, none⟩ = some (.string nu) ∧ w'.cell? ⟨bb, o + k * 5 + 1 + 1 + 1, none⟩ = some (.slice kk.a kk.n kk.c) ∧ w'.cell? ⟨bb, o + k * 5 + 1 + 1 + 1 + 1, none⟩ = some (.slice A M Cc) ∧ w'.cell? ⟨bb', o' + k * 5, none⟩ = some (.int .i64 op') ∧ w'.cell? ⟨bb', o' + k * 5 + 1, none⟩ = some (.string nm') ∧ w'.cell? ⟨bb', o' + k * 5 + 1 + 1, none⟩ = some (.string nu') ∧ w'.cell? ⟨bb', o' + k * 5 + 1 + 1 + 1, none⟩ = some (.slice kk'.a kk'.n kk'.c) ∧ w'.cell? ⟨bb', o' + k * 5 + 1 + 1 + 1 + 1, none⟩ = some (.slice A' M' Cc'))
            (first | go_keep | (exact ⟨(B4.cell hb).trans y0, (B4.cell hb).trans y1, (B4.cell hb).trans y2, (B4.cell hb).trans y3, (B4.cell hb).trans y4, (B4.cell hb').trans z0, (B4.cell hb').trans z1, (B4.cell hb').trans z2, (B4.cell hb').trans z3, (B4.cell hb').trans z4⟩))
            (first | (go_at_call 48; ((with_reducible refine cs.mono ?_); rintro e w4 ⟨rfl, hb4⟩; have B4 := bel_trans hBd hb4)))
          go_wp2
          go_ret
          exact ⟨oneB hnew.out, bel_trans hB B4⟩
      · have hnew : Hid (true = F 0) := by show _ = _; rw [← hR.out, He.out k (by omega)]
        clear hR
        go_wp2
        go_ret
        exact ⟨oneB hnew.out, hB⟩
  · have hf : Hid (false = exCs l l') := (exCs_len (by rw [← hG.1, ← hG'.1]; exact hmm)).symm
    have n1 : ((m : Int) != (m' : Int)) = true := by simp; omega
    clear hG hG' hmm hok
    go_enter Tryz.func86, Tryz.ntmps86
    go_wp2
    go_ret
    exact ⟨oneB hf.out, Below.refl _ _⟩

set_option maxRecDepth 100000 in
set_option maxHeartbeats 8000000 in
theorem Exact_step (t : Cl) (hok : ∀ x ∈ subC t, ExOk x) : ExOk t := by
  intro u k a n c k' a' n' c' w hA hA'
  obtain ⟨W2, hW2, hB2, hs2, S2, T2⟩ := cbox2 w (opC t) (nmC t) (soC t) k a n c (opC u) (nmC u) (soC u) k' a' n' c'
  have cT := fun (w' : World) (hb : Below W2.heap.size W2 w') => Terms_any (tsC t) k.a k.n k.c k'.a k'.n k'.c (tsC u) w' (TsW.b (ArWC.terms (ArWC.b hA hB2)) hb) (TsW.b (ArWC.terms (ArWC.b hA' hB2)) hb)
  have cL := fun (w' : World) (hb : Below W2.heap.size W2 w') => Exacts_of (subC t) hok a n c a' n' c' (subC u) w' (CsW.b (ArWC.subs (ArWC.b hA hB2)) hb) (CsW.b (ArWC.subs (ArWC.b hA' hB2)) hb)
  rw [exC_mk]
  have HS := Lib.hid S2
  have HT := Lib.hid T2
  obtain ⟨s0, s1, s2, s3, s4⟩ := S2.five
  obtain ⟨t0, t1, t2, t3, t4⟩ := T2.five
  clear hA hA' hok S2 T2
  generalize exCs (subC t) (subC u) = R at *
  generalize eqTs (tsC t) (tsC u) = Q at *
  generalize opC t = op at *
  generalize nmC t = nm at *
  generalize soC t = so at *
  generalize opC u = op' at *
  generalize nmC u = nm' at *
  generalize soC u = so' at *
  have hBd : Below W2.heap.size W2 W2 := Below.refl _ _
  cases h1 : op == op' <;> cases h2 : so.toList == so'.toList <;> cases h3 : nm.toList == nm'.toList <;> cases Q <;> cases R
  all_goals
    first | (have g1 : (op = op') = False := by simpa using h1) | (have g1 : (op = op') = True := by simpa using h1)
    first | (have g2 : (so.toList = so'.toList) = False := by simpa using h2) | (have g2 : (so.toList = so'.toList) = True := by simpa using h2)
    first | (have g3 : (nm.toList = nm'.toList) = False := by simpa using h3) | (have g3 : (nm.toList = nm'.toList) = True := by simpa using h3)
    go_enter Tryz.func48, Tryz.ntmps48
    go_wp2_with (first
      | (go_at_call 15; ((with_reducible refine (cT _ hBd).mono ?_); rintro e w3 ⟨rfl, hb3⟩; obtain ⟨u0, u1, u2, u3, u4⟩ := (CBox.b HS.out hb3).five; obtain ⟨v0, v1, v2, v3, v4⟩ := (CBox.b HT.out hb3).five; have B3 := bel_trans hB2 hb3))
      | (go_at_call 86; ((with_reducible refine (cL _ hb3).mono ?_); rintro e w4 ⟨rfl, hb4⟩; have B4 := bel_trans B3 hb4)))
    go_ret
    first | exact ⟨rfl, B4⟩ | exact ⟨rfl, B3⟩ | exact ⟨rfl, hB2⟩
theorem Exact_any (t : Cl) : ExOk t := Cl.ind Exact_step t
end Go.Proofs.YtjjfbgadpgckeaaGreat.C
namespace Go.Proofs.YtjjfbgadpgckeaaGreat.C
open Go.RowKit L T
set_option linter.unusedVariables false
set_option linter.unusedSimpArgs false

set_option maxRecDepth 100000 in
set_option maxHeartbeats 4000000 in
theorem Exacts8_of (l : List Cl) (hok : ∀ t ∈ l, ExOk t) (b : Option Addr) (m d : Nat) (b' : Option Addr) (m' d' : Nat) (l' : List Cl) (w : World) (hG : CsW w b m d l) (hG' : CsW w b' m' d' l') :
    Calls Tryz.prog 21 #[.slice b m d, .slice b' m' d'] w fun e w' => e = .returned (.bool (exCs l l')) ∧ Below w.heap.size w w' := by
  by_cases hmm : m = m'
  · subst hmm
    have hst : ∀ k (f g : Cl), l[k]? = some f → l'[k]? = some g → exCs (l.drop k) (l'.drop k) = (exC f g && exCs (l.drop (k + 1)) (l'.drop (k + 1))) := fun k f g h h2 => by rw [drop_c h, drop_c h2, exCs]
    have he : ∀ k, m ≤ k → exCs (l.drop k) (l'.drop k) = true := fun k h => by
      rw [List.drop_eq_nil_of_le (by rw [← hG.1]; exact h), List.drop_eq_nil_of_le (by rw [← hG'.1]; exact h)]; rfl
    have h0 : exCs l l' = exCs (l.drop 0) (l'.drop 0) := rfl
    have hk2 : ∀ k f, l[k]? = some f → ExOk f := fun k f h => hok f (List.mem_of_getElem? h)
    have hm : m ≤ 9223372036854775807 := by have h1 := hG.2.1; have h2 := hG.2.2.1; unfold maxLen at h2; omega
    rw [h0]
    obtain ⟨F, hF⟩ : ∃ F : Nat → Bool, ∀ k, exCs (l.drop k) (l'.drop k) = F k := ⟨_, fun _ => rfl⟩
    simp only [hF] at hst he ⊢
    clear hF h0 hok
    have H1 := Lib.hid hG
    have H2 := Lib.hid hG'
    have Hst := Lib.hid hst
    have He := Lib.hid he
    have HK := Lib.hid hk2
    clear hG hG' hst he hk2
    go_enter Tryz.func21, Tryz.ntmps21
    go_wp2
    go_loopw [5] (fun i wr0 => ∃ (wr : World) (k : Nat), wr = wr0 ∧ k ≤ m ∧ i = .int .i64 k ∧ Below w.heap.size w wr ∧ Hid (F k = F 0)) (fun i _ => m - (intOf i).toNat)
    case atStart => exact ⟨_, 0, rfl, by omega, rfl, Below.refl _ _, Lib.hid rfl⟩
    case round =>
      obtain ⟨wr, k, rfl, hk, rfl, hB, hR⟩ := hrel
      by_cases hlt : k < m
      · obtain ⟨bb, o, t, kk, A, M, Cc, rfl, hb, y0, y1, y2, y3, y4, hx, hok⟩ := (CsW.b H1.out hB).at hlt
        obtain ⟨bb', o', u, kk', A', M', Cc', rfl, hb', z0, z1, z2, z3, z4, hx', hok'⟩ := (CsW.b H2.out hB).at hlt
        have hs1 := Hst.out k t u hx hx'
        have hk0 : 0 ≤ (k : Int) := by omega
        have hk1 : (k : Int) < (m : Int) := by omega
        have hBd : Below wr.heap.size wr wr.drew := (Below.refl _ _).drew
        have cs := HK.out k t hx u kk A M Cc kk' A' M' Cc' wr.drew (ArWC.b hok hBd) (ArWC.b hok' hBd)
        clear hx hx' hok hok' H1 H2 Hst HK
        generalize exC t u = Q at *
        generalize opC t = op at *
        generalize nmC t = nm at *
        generalize soC t = nu at *
        generalize opC u = op' at *
        generalize nmC u = nm' at *
        generalize soC u = nu' at *
        cases Q with
        | true =>
          have hnew : Hid (F (k + 1) = F 0) := by show _ = _; rw [← hR.out, hs1]; rfl
          clear hR hs1
          go_wp2_with fail
          go_region_held3 (fun w' => w'.cell? ⟨bb, o + k * 5, none⟩ = some (.int .i64 op) ∧ w'.cell? ⟨bb, o + k * 5 + 1, none⟩ = some (.string nm) ∧ w'.cell? ⟨bb, o + k * 5 + 1 + 1, none⟩ = some (.string nu) ∧ w'.cell? ⟨bb, o + k * 5 + 1 + 1 + 1, none⟩ = some (.slice kk.a kk.n kk.c) ∧ w'.cell? ⟨bb, o + k * 5 + 1 + 1 + 1 + 1, none⟩ = some (.slice A M Cc) ∧ w'.cell? ⟨bb', o' + k * 5, none⟩ = some (.int .i64 op') ∧ w'.cell? ⟨bb', o' + k * 5 + 1, none⟩ = some (.string nm') ∧ w'.cell? ⟨bb', o' + k * 5 + 1 + 1, none⟩ = some (.string nu') ∧ w'.cell? ⟨bb', o' + k * 5 + 1 + 1 + 1, none⟩ = some (.slice kk'.a kk'.n kk'.c) ∧ w'.cell? ⟨bb', o' + k * 5 + 1 + 1 + 1 + 1, none⟩ = some (.slice A' M' Cc'))
            (first | go_keep | (exact ⟨(B4.cell hb).trans y0, (B4.cell hb).trans y1, (B4.cell hb).trans y2, (B4.cell hb).trans y3, (B4.cell hb).trans y4, (B4.cell hb').trans z0, (B4.cell hb').trans z1, (B4.cell hb').trans z2, (B4.cell hb').trans z3, (B4.cell hb').trans z4⟩))
            (first | (go_at_call 48; ((with_reducible refine cs.mono ?_); rintro e w4 ⟨rfl, hb4⟩; have B4 := bel_trans hBd hb4)))
          go_wp2
          go_roundw
          case rel => exact ⟨_, k + 1, rfl, by omega, by go_num, bel_trans hB B4, hnew⟩
          case measure => simp [intOf]; omega
        | false =>
          have hnew : Hid (false = F 0) := by show _ = _; rw [← hR.out, hs1]; rfl
          clear hR hs1
          go_wp2_with fail
          go_region_held3 (fun w' => w'.cell? ⟨bb, o + k * 5, none⟩ = some (.int .i64 op) ∧ w'.cell? ⟨bb, o + k * 5 + 1, none⟩ = some (.string nm) ∧ w'.cell? ⟨bb, o + k * 5 + 1 + 1, none⟩ = some (.string nu) ∧ w'.cell? ⟨bb, o + k * 5 + 1 + 1 + 1, none⟩ = some (.slice kk.a kk.n kk.c) ∧ w'.cell? ⟨bb, o + k * 5 + 1 + 1 + 1 + 1, none⟩ = some (.slice A M Cc) ∧ w'.cell? ⟨bb', o' + k * 5, none⟩ = some (.int .i64 op') ∧ w'.cell? ⟨bb', o' + k * 5 + 1, none⟩ = some (.string nm') ∧ w'.cell? ⟨bb', o' + k * 5 + 1 + 1, none⟩ = some (.string nu') ∧ w'.cell? ⟨bb', o' + k * 5 + 1 + 1 + 1, none⟩ = some (.slice kk'.a kk'.n kk'.c) ∧ w'.cell? ⟨bb', o' + k * 5 + 1 + 1 + 1 + 1, none⟩ = some (.slice A' M' Cc'))
            (first | go_keep | (exact ⟨(B4.cell hb).trans y0, (B4.cell hb).trans y1, (B4.cell hb).trans y2, (B4.cell hb).trans y3, (B4.cell hb).trans y4, (B4.cell hb').trans z0, (B4.cell hb').trans z1, (B4.cell hb').trans z2, (B4.cell hb').trans z3, (B4.cell hb').trans z4⟩))
            (first | (go_at_call 48; ((with_reducible refine cs.mono ?_); rintro e w4 ⟨rfl, hb4⟩; have B4 := bel_trans hBd hb4)))
          go_wp2
          go_ret
          exact ⟨oneB hnew.out, bel_trans hB B4⟩
      · have hnew : Hid (true = F 0) := by show _ = _; rw [← hR.out, He.out k (by omega)]
        clear hR
        go_wp2
        go_ret
        exact ⟨oneB hnew.out, hB⟩
  · have hf : Hid (false = exCs l l') := (exCs_len (by rw [← hG.1, ← hG'.1]; exact hmm)).symm
    have n1 : ((m : Int) != (m' : Int)) = true := by simp; omega
    clear hG hG' hmm hok
    go_enter Tryz.func21, Tryz.ntmps21
    go_wp2
    go_ret
    exact ⟨oneB hf.out, Below.refl _ _⟩

theorem Exacts8_any (l l' : List Cl) (b : Option Addr) (m d : Nat) (b' : Option Addr) (m' d' : Nat) (w : World) (hG : CsW w b m d l) (hG' : CsW w b' m' d' l') :
    Calls Tryz.prog 21 #[.slice b m d, .slice b' m' d'] w fun e w' => e = .returned (.bool (exCs l l')) ∧ Below w.heap.size w w' :=
  Exacts8_of l (fun t _ => Exact_any t) b m d b' m' d' l' w hG hG'
def fewL (most : Nat) (l : List Cl) : Bool := l.all (fun c => decide (wtTo most c ≤ most))
theorem fewL_step {most : Nat} {x : Cl} {l : List Cl} {k : Nat} (h : l[k]? = some x) : fewL most (l.drop k) = (decide (wtTo most x ≤ most) && fewL most (l.drop (k + 1))) := by rw [drop_c h]; unfold fewL; rw [List.all_cons]
set_option maxRecDepth 100000 in
set_option maxHeartbeats 4000000 in
theorem Few_any (l : List Cl) (a : Option Addr) (n c most : Nat) (w : World) (hm : most ≤ 1000000000) (hC : CsW w a n c l) :
    Calls Tryz.prog 14 #[.slice a n c, .int .i64 most] w fun e w' => e = .returned (.bool (decide (l.length ≤ most) && fewL most l)) ∧ Below w.heap.size w w' := by
  have hn : n = l.length := hC.1
  have hn2 : n ≤ 9223372036854775807 := by have h1 := hC.2.1; have h2 := hC.2.2.1; unfold maxLen at h2; omega
  rw [← hn]
  by_cases hle : n ≤ most
  · have e1 : decide (n ≤ most) = true := decide_eq_true hle
    rw [e1, Bool.true_and]
    have q1 : decide (most < n) = false := decide_eq_false (by omega)
    have Hst := Lib.hid (show ∀ k x, l[k]? = some x → fewL most (l.drop k) = (decide (wtTo most x ≤ most) && fewL most (l.drop (k + 1))) from fun k x h => fewL_step h)
    have He := Lib.hid (show ∀ k, n ≤ k → fewL most (l.drop k) = true from fun k h => by rw [List.drop_eq_nil_of_le (by omega)]; rfl)
    have h0 : fewL most l = fewL most (l.drop 0) := rfl
    rw [h0]
    obtain ⟨F, hF⟩ : ∃ F : Nat → Bool, ∀ k, fewL most (l.drop k) = F k := ⟨_, fun _ => rfl⟩
    have Hst' := Lib.hid (show ∀ k x, l[k]? = some x → F k = (decide (wtTo most x ≤ most) && F (k + 1)) from fun k x h => by rw [← hF, ← hF]; exact Hst.out k x h)
    have He' := Lib.hid (show ∀ k, n ≤ k → F k = true from fun k h => by rw [← hF]; exact He.out k h)
    rw [hF]
    have H1 := Lib.hid hC
    clear hF h0 Hst He hC hn e1 hle
    go_enter Tryz.func14, Tryz.ntmps14
    go_wp2
    go_loopw [6, 13] (fun p i wr0 => ∃ (wr : World) (k : Nat), wr = wr0 ∧ k ≤ n ∧ i = .int .i64 k ∧ Below w.heap.size w wr ∧ Hid (F k = F 0)) (fun p i _ => n - (intOf i).toNat)
    case atStart => exact ⟨_, 0, rfl, by omega, rfl, Below.refl _ _, Lib.hid rfl⟩
    case round =>
      obtain ⟨wr, k, rfl, hk, rfl, hB, hR⟩ := hrel
      by_cases hlt : k < n
      · obtain ⟨bb, o, x, ⟨xa, xn, xc⟩, A, M, Cc, rfl, hb, y0, y1, y2, y3, y4, hx, hok⟩ := (CsW.b H1.out hB).at hlt
        dsimp only at y3
        obtain ⟨W4, hW4, hB4, hs4, S4⟩ := cbox1 wr (opC x) (nmC x) (soC x) ⟨xa, xn, xc⟩ A M Cc
        have cs := Big_any x ⟨xa, xn, xc⟩ A M Cc most W4 hm (ArWC.b hok hB4)
        dsimp only at hW4 cs
        obtain ⟨f0, f1, f2, f3, f4⟩ := S4.five
        have hs1 := Hst'.out k x hx
        have hk0 : 0 ≤ (k : Int) := by omega
        have hk1 : (k : Int) < (n : Int) := by omega
        have B4 := bel_trans hB hB4
        clear hx hok H1 S4 Hst'
        generalize wtTo most x = tw at *
        generalize opC x = op' at *
        generalize nmC x = nm' at *
        generalize soC x = so' at *
        dsimp only at f3
        by_cases ht : tw ≤ most
        · have e2 : decide (most < tw) = false := decide_eq_false (by omega)
          have hnew : Hid (F (k + 1) = F 0) := Lib.hid (by rw [← hR.out, hs1, decide_eq_true ht]; rfl)
          rw [e2] at cs
          clear hR hs1 e2 ht
          go_wp2_with (go_at_call 6; ((with_reducible refine cs.mono ?_); rintro e w5 ⟨rfl, hb5⟩))
          go_roundw
          case rel => exact ⟨_, k + 1, rfl, by omega, by go_num, bel_trans B4 hb5, hnew⟩
          case measure => simp [intOf]; omega
        · have e2 : decide (most < tw) = true := decide_eq_true (by omega)
          have hnew : Hid (false = F 0) := Lib.hid (by rw [← hR.out, hs1, decide_eq_false ht]; rfl)
          rw [e2] at cs
          clear hR hs1 e2 ht
          go_wp2_with (go_at_call 6; ((with_reducible refine cs.mono ?_); rintro e w5 ⟨rfl, hb5⟩))
          go_ret
          exact ⟨oneB hnew.out, bel_trans B4 hb5⟩
      · have hnew : Hid (true = F 0) := Lib.hid (by rw [← hR.out, He'.out k (by omega)])
        clear hR
        go_wp2
        go_ret
        exact ⟨oneB hnew.out, hB⟩
  · have e1 : decide (n ≤ most) = false := decide_eq_false hle
    rw [e1, Bool.false_and]
    have q1 : decide ((n : Int) > (most : Int)) = true := decide_eq_true (by omega)
    clear hC hn e1
    go_enter Tryz.func14, Tryz.ntmps14
    go_wp2
    go_ret
    exact ⟨rfl, Below.refl _ _⟩
section
open Go.Deep Go.ChangeShapes Go.WideShapes Go.Joins
variable {H : Type} {enc : TypeId × Value → H} {W : World}
set_option maxRecDepth 100000 in
theorem claims_open_all {a : Option Addr} {n c : Nat} {d : DataW H} {p : List MemPlace} (h : DataW.Trod enc Tryz.prog W 0 (fun _ => true) true 23 (.slice a n c) d p) :
    ∃ X : List Cl, n ≤ 9223372036854775807 ∧ CsW W a n c X := by
  obtain ⟨fuel, hf⟩ := h
  have hf2 : DataW.trod enc Tryz.prog W 0 (fun _ => true) true fuel 23 [.slice a n c] = some (d, p) := by simpa [Value.cells] using hf
  obtain ⟨y, hy⟩ : ∃ y, DataW.trod enc Tryz.prog W 0 (fun _ => true) true 1 9 [.string ⟨#[]⟩] = some y := ⟨(.lit (.string []), []), by
    unfold DataW.trod
    rw [Tryz.underlying9]
    rfl⟩
  have h9 : DataW.trod enc Tryz.prog W 0 (fun _ => true) true 1 3 [.int .i64 0] = some (.lit (.int .i64 0), []) := trod_int_mk (k := .i64) 0 Tryz.underlying3 (by decide)
  obtain ⟨z, hz⟩ : ∃ z, DataW.trod enc Tryz.prog W 0 (fun _ => true) true 1 22 [.slice none 0 0] = some z := ⟨(.nil, []), by
    unfold DataW.trod
    rw [Tryz.underlying22]
    rfl⟩
  obtain ⟨t, k, a', m, c', hf3, hr⟩ := five_of (fun m hm cs' x' h' => claim_cells m m (Nat.le_refl _) cs' x' h') h9 hy hy hz hf2
  simp only [List.cons.injEq, and_true, Value.slice.injEq] at hf3
  obtain ⟨_, _, _, _, rfl, rfl, rfl⟩ := hf3
  have hq := ArWC.subs hr
  exact ⟨subC t, by have := hq.2.1; have := hq.2.2.1; unfold maxLen at this; omega, hq⟩
end
end Go.Proofs.YtjjfbgadpgckeaaGreat.C
