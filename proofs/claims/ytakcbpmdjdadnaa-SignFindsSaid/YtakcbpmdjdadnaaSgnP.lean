/-
  What is proved: which signatures are the same, by package sign and by the document's answers.
-/
import Derived.Test.YtakcbpmdjdadnaaSgnO
import Derived.Deep.RegionHeld3
namespace Go.Proofs.Ytakcbpmdjdadnaa.Sgn
open Go.RowKit L Srt
set_option linter.unusedVariables false
set_option linter.unusedSimpArgs false

set_option maxHeartbeats 4000000 in
theorem Same_any (a : Option Addr) (n c : Nat) (S : List ByteArray) (b : Option Addr) (m d : Nat) (G : List Fm) (a' : Option Addr) (n' c' : Nat) (S' : List ByteArray) (b' : Option Addr) (m' d' : Nat) (G' : List Fm) (w : World)
    (hS : IsS w a n S) (hn : n ≤ 1000000) (hG : IsG w b m G) (hm : m ≤ 1000000) (hK : okK (cores G)) (hS' : IsS w a' n' S') (hn' : n' ≤ 1000000) (hG' : IsG w b' m' G') (hm' : m' ≤ 1000000) (hK' : okK (cores G')) :
    Calls Try.prog 26 #[.agg #[.slice a n c, .slice b m d], .agg #[.slice a' n' c', .slice b' m' d']] w fun e w' => e = .returned (.bool (eqL S S' && eqK (cores G) (cores G'))) ∧ Below w.heap.size w w' := by
  obtain ⟨W2, hW2, hB2, S2, T2⟩ := boxesS w a n c b m d a' n' c' b' m' d'
  have cE := Equal_any a a' n n' c c' S S' W2 (hS.below hB2) (hS'.below hB2) (by omega) (by omega)
  have cF := fun (w' : World) (h : Below W2.heap.size W2 w') => EqualFunc_any b m d G b' m' d' G' w' ((hG.below hB2).below h) ((hG'.below hB2).below h) hm hm' hK hK'
  obtain ⟨s0, s1⟩ := S2.two
  obtain ⟨t0, t1⟩ := T2.two
  clear hS hG hS' hG' hK hK'
  generalize eqL S S' = Q at *
  generalize eqK (cores G) (cores G') = R at *
  cases Q <;> cases R
  all_goals
    go_enter Try.func26, Try.ntmps26
    go_wp2_with (first
      | (go_at_call 46; ((with_reducible refine cE.mono ?_); rintro e w3 ⟨rfl, hb3⟩; have B3 := bel_trans hB2 hb3; obtain ⟨s30, s31⟩ := (S2.b hb3).two; obtain ⟨t30, t31⟩ := (T2.b hb3).two))
      | (go_at_call 47; ((with_reducible refine (cF _ hb3).mono ?_); rintro e w4 ⟨rfl, hb4⟩; have B4 := bel_trans B3 hb4)))
    go_ret
    first | exact ⟨rfl, B4⟩ | exact ⟨rfl, B3⟩

set_option maxRecDepth 100000 in
set_option maxHeartbeats 4000000 in
theorem Funs_any (b : Option Addr) (m d : Nat) (G : List Fm) (b' : Option Addr) (m' d' : Nat) (G' : List Fm) (w : World) (hG : IsG w b m G) (hG' : IsG w b' m' G') (hm : m ≤ 1000000) (hm' : m' ≤ 1000000) (hK : okK (cores G)) (hK' : okK (cores G')) :
    Calls Try.prog 45 #[.slice b m d, .slice b' m' d'] w fun e w' => e = .returned (.bool (eqK (cores G) (cores G'))) ∧ Below w.heap.size w w' := by
  have hl : (cores G).length = m := by rw [cores_len]; exact hG.1.symm
  have hl' : (cores G').length = m' := by rw [cores_len]; exact hG'.1.symm
  by_cases hmm : m = m'
  · subst hmm
    have hst : ∀ k (f g : Fm), G[k]? = some f → G'[k]? = some g → eqK ((cores G).drop k) ((cores G').drop k) = (eqC f.core g.core && eqK ((cores G).drop (k + 1)) ((cores G').drop (k + 1))) := fun k f g h h2 => eqK_step (cores_at h) (cores_at h2)
    have he : ∀ k, m ≤ k → eqK ((cores G).drop k) ((cores G').drop k) = true := fun k h => eqK_end (by omega) (by omega)
    have h0 : eqK (cores G) (cores G') = eqK ((cores G).drop 0) ((cores G').drop 0) := rfl
    rw [h0]
    have hM : ∀ (k : Nat) (f : Fm) (w' : World), G[k]? = some f → f.ok w' → f.m ≤ 1000000000 := fun k f w' h h2 => by
      have h3 : f.core.2.1.length ≤ 1000000 := (hK.at (cores_at h)).2.2.1
      have h4 : f.m = f.X.length := h2.1.1
      have h5 : f.X.length ≤ 1000000 := h3
      omega
    have hM' : ∀ (k : Nat) (f : Fm) (w' : World), G'[k]? = some f → f.ok w' → f.m ≤ 1000000000 := fun k f w' h h2 => by
      have h3 : f.core.2.1.length ≤ 1000000 := (hK'.at (cores_at h)).2.2.1
      have h4 : f.m = f.X.length := h2.1.1
      have h5 : f.X.length ≤ 1000000 := h3
      omega
    obtain ⟨F, hF⟩ : ∃ F : Nat → Bool, ∀ k, eqK ((cores G).drop k) ((cores G').drop k) = F k := ⟨_, fun _ => rfl⟩
    simp only [hF] at hst he ⊢
    clear hF h0 hK hK' hl hl'
    have H1 := Lib.hid hG
    have H2 := Lib.hid hG'
    have Hst := Lib.hid hst
    have He := Lib.hid he
    have HM := Lib.hid hM
    have HM' := Lib.hid hM'
    clear hG hG' hst he hM hM'
    go_enter Try.func45, Try.ntmps45
    go_wp2
    go_loopw [5] (fun i wr0 => ∃ (wr : World) (k : Nat), wr = wr0 ∧ k ≤ m ∧ i = .int .i64 k ∧ Below w.heap.size w wr ∧ Hid (F k = F 0)) (fun i _ => m - (intOf i).toNat)
    case atStart => exact ⟨_, 0, rfl, by omega, rfl, Below.refl _ _, Lib.hid rfl⟩
    case round =>
      obtain ⟨wr, k, rfl, hk, rfl, hB, hR⟩ := hrel
      by_cases hlt : k < m
      · obtain ⟨bb, o, f, rfl, hb, y1, y2, y3, hx, hok⟩ := (H1.out.below hB).at hlt
        obtain ⟨bb', o', g, rfl, hb', z1, z2, z3, hx', hok'⟩ := (H2.out.below hB).at hlt
        have hs1 := Hst.out k f g hx hx'
        have hk0 : 0 ≤ (k : Int) := by omega
        have hk1 : (k : Int) < (m : Int) := by omega
        have hBd : Below wr.heap.size wr wr.drew := (Below.refl _ _).drew
        have cs := baseFun_any f g wr.drew (hok.below hBd) (hok'.below hBd) (HM.out k f wr hx hok) (HM'.out k g wr hx' hok')
        clear hx hx' hok hok' H1 H2 Hst HM HM'
        generalize eqC f.core g.core = Q at *
        generalize f.name = nm at *
        generalize f.a = A at *
        generalize f.m = M at *
        generalize f.c = Cc at *
        generalize f.res = rs at *
        generalize g.name = nm' at *
        generalize g.a = A' at *
        generalize g.m = M' at *
        generalize g.c = Cc' at *
        generalize g.res = rs' at *
        cases Q with
        | true =>
          have hnew : Hid (F (k + 1) = F 0) := by show _ = _; rw [← hR.out, hs1]; rfl
          clear hR hs1
          go_wp2_with fail
          go_region_held3 (fun w' => w'.cell? ⟨bb, o + k * 3, none⟩ = some (.string nm) ∧ w'.cell? ⟨bb, o + k * 3 + 1, none⟩ = some (.slice A M Cc) ∧ w'.cell? ⟨bb, o + k * 3 + 1 + 1, none⟩ = some (.string rs) ∧ w'.cell? ⟨bb', o' + k * 3, none⟩ = some (.string nm') ∧ w'.cell? ⟨bb', o' + k * 3 + 1, none⟩ = some (.slice A' M' Cc') ∧ w'.cell? ⟨bb', o' + k * 3 + 1 + 1, none⟩ = some (.string rs'))
            (first | go_keep | (exact ⟨(B4.cell hb).trans y1, (B4.cell hb).trans y2, (B4.cell hb).trans y3, (B4.cell hb').trans z1, (B4.cell hb').trans z2, (B4.cell hb').trans z3⟩))
            (first | (go_at_call 22; ((with_reducible refine cs.mono ?_); rintro e w4 ⟨rfl, hb4⟩; have B4 := bel_trans hBd hb4)))
          go_wp2
          go_roundw
          case rel => exact ⟨_, k + 1, rfl, by omega, by go_num, bel_trans hB B4, hnew⟩
          case measure => simp [intOf]; omega
        | false =>
          have hnew : Hid (false = F 0) := by show _ = _; rw [← hR.out, hs1]; rfl
          clear hR hs1
          go_wp2_with fail
          go_region_held3 (fun w' => w'.cell? ⟨bb, o + k * 3, none⟩ = some (.string nm) ∧ w'.cell? ⟨bb, o + k * 3 + 1, none⟩ = some (.slice A M Cc) ∧ w'.cell? ⟨bb, o + k * 3 + 1 + 1, none⟩ = some (.string rs) ∧ w'.cell? ⟨bb', o' + k * 3, none⟩ = some (.string nm') ∧ w'.cell? ⟨bb', o' + k * 3 + 1, none⟩ = some (.slice A' M' Cc') ∧ w'.cell? ⟨bb', o' + k * 3 + 1 + 1, none⟩ = some (.string rs'))
            (first | go_keep | (exact ⟨(B4.cell hb).trans y1, (B4.cell hb).trans y2, (B4.cell hb).trans y3, (B4.cell hb').trans z1, (B4.cell hb').trans z2, (B4.cell hb').trans z3⟩))
            (first | (go_at_call 22; ((with_reducible refine cs.mono ?_); rintro e w4 ⟨rfl, hb4⟩; have B4 := bel_trans hBd hb4)))
          go_wp2
          go_ret
          exact ⟨oneB hnew.out, bel_trans hB B4⟩
      · have hnew : Hid (true = F 0) := by show _ = _; rw [← hR.out, He.out k (by omega)]
        clear hR
        go_wp2
        go_ret
        exact ⟨oneB hnew.out, hB⟩
  · have hf : Hid (false = eqK (cores G) (cores G')) := (eqK_len (by rw [hl, hl']; exact hmm)).symm
    have n1 : ((m : Int) != (m' : Int)) = true := by simp; omega
    clear hG hG' hmm hl hl' hK hK'
    go_enter Try.func45, Try.ntmps45
    go_wp2
    go_ret
    exact ⟨oneB hf.out, Below.refl _ _⟩

set_option maxHeartbeats 4000000 in
theorem baseSign_any (a : Option Addr) (n c : Nat) (S : List ByteArray) (b : Option Addr) (m d : Nat) (G : List Fm) (a' : Option Addr) (n' c' : Nat) (S' : List ByteArray) (b' : Option Addr) (m' d' : Nat) (G' : List Fm) (w : World)
    (hS : IsS w a n S) (hn : n ≤ 1000000) (hG : IsG w b m G) (hm : m ≤ 1000000) (hK : okK (cores G)) (hS' : IsS w a' n' S') (hn' : n' ≤ 1000000) (hG' : IsG w b' m' G') (hm' : m' ≤ 1000000) (hK' : okK (cores G')) :
    Calls Try.prog 19 #[.agg #[.slice a n c, .slice b m d], .agg #[.slice a' n' c', .slice b' m' d']] w fun e w' => e = .returned (.bool (eqL S S' && eqK (cores G) (cores G'))) ∧ Below w.heap.size w w' := by
  obtain ⟨W2, hW2, hB2, S2, T2⟩ := boxesS w a n c b m d a' n' c' b' m' d'
  have cE := Strings_any a a' n n' c c' S S' W2 (hS.below hB2) (hS'.below hB2) (by omega) (by omega)
  have cF := fun (w' : World) (h : Below W2.heap.size W2 w') => Funs_any b m d G b' m' d' G' w' ((hG.below hB2).below h) ((hG'.below hB2).below h) hm hm' hK hK'
  obtain ⟨s0, s1⟩ := S2.two
  obtain ⟨t0, t1⟩ := T2.two
  clear hS hG hS' hG' hK hK'
  generalize eqL S S' = Q at *
  generalize eqK (cores G) (cores G') = R at *
  cases Q <;> cases R
  all_goals
    go_enter Try.func19, Try.ntmps19
    go_wp2_with (first
      | (go_at_call 23; ((with_reducible refine cE.mono ?_); rintro e w3 ⟨rfl, hb3⟩; have B3 := bel_trans hB2 hb3; obtain ⟨s30, s31⟩ := (S2.b hb3).two; obtain ⟨t30, t31⟩ := (T2.b hb3).two))
      | (go_at_call 45; ((with_reducible refine (cF _ hb3).mono ?_); rintro e w4 ⟨rfl, hb4⟩; have B4 := bel_trans B3 hb4)))
    go_ret
    first | exact ⟨rfl, B4⟩ | exact ⟨rfl, B3⟩
end Go.Proofs.Ytakcbpmdjdadnaa.Sgn
