/-
  What is proved: whether two lists of pairs are the same: the base's Pairs.
-/
import Derived.Test.YtnhemglpbhnmdaaGreatZSbBp
import Derived.Deep.RegionHeld3
namespace Go.Proofs.YtnhemglpbhnmdaaGreat.U
open Go.RowKit L T
set_option linter.unusedVariables false
set_option linter.unusedSimpArgs false

set_option maxRecDepth 100000 in
set_option maxHeartbeats 4000000 in
theorem Pairs_any (l l' : List Pr) (b : Option Addr) (m d : Nat) (b' : Option Addr) (m' d' : Nat) (w : World) (hG : UsW w b m d l) (hG' : UsW w b' m' d' l') :
    Calls Tryz.prog 28 #[.slice b m d, .slice b' m' d'] w fun e w' => e = .returned (.bool (eqPs l l')) ∧ Below w.heap.size w w' := by
  by_cases hmm : m = m'
  · subst hmm
    have hst : ∀ k (f g : Pr), l[k]? = some f → l'[k]? = some g → eqPs (l.drop k) (l'.drop k) = (eqP f g && eqPs (l.drop (k + 1)) (l'.drop (k + 1))) := fun k f g h h2 => by rw [drop_u h, drop_u h2, eqPs]
    have he : ∀ k, m ≤ k → eqPs (l.drop k) (l'.drop k) = true := fun k h => by
      rw [List.drop_eq_nil_of_le (by rw [← hG.1]; exact h), List.drop_eq_nil_of_le (by rw [← hG'.1]; exact h)]; rfl
    have h0 : eqPs l l' = eqPs (l.drop 0) (l'.drop 0) := rfl
    have hm : m ≤ 9223372036854775807 := hG.lt63
    rw [h0]
    obtain ⟨F, hF⟩ : ∃ F : Nat → Bool, ∀ k, eqPs (l.drop k) (l'.drop k) = F k := ⟨_, fun _ => rfl⟩
    simp only [hF] at hst he ⊢
    clear hF h0
    have H1 := Lib.hid hG
    have H2 := Lib.hid hG'
    have Hst := Lib.hid hst
    have He := Lib.hid he
    clear hG hG' hst he
    go_enter Tryz.func28, Tryz.ntmps28
    go_wp2
    go_loopw [5] (fun i wr0 => ∃ (wr : World) (k : Nat), wr = wr0 ∧ k ≤ m ∧ i = .int .i64 k ∧ Below w.heap.size w wr ∧ Hid (F k = F 0)) (fun i _ => m - (intOf i).toNat)
    case atStart => exact ⟨_, 0, rfl, by omega, rfl, Below.refl _ _, Lib.hid rfl⟩
    case round =>
      obtain ⟨wr, k, rfl, hk, rfl, hB, hR⟩ := hrel
      by_cases hlt : k < m
      · obtain ⟨bb, o, p, A, M, Cc, rfl, hb, y0, y1, y2, y3, y4, hx, hok⟩ := (UsW.b H1.out hB).at hlt
        obtain ⟨bb', o', q, A', M', Cc', rfl, hb', z0, z1, z2, z3, z4, hx', hok'⟩ := (UsW.b H2.out hB).at hlt
        have hs1 := Hst.out k p q hx hx'
        have hk0 : 0 ≤ (k : Int) := by omega
        have hk1 : (k : Int) < (m : Int) := by omega
        have hBd : Below wr.heap.size wr wr.drew := (Below.refl _ _).drew
        have cs := Pair_any p q A M Cc A' M' Cc' wr.drew (ArW.b hok hBd) (ArW.b hok' hBd)
        unfold prV at cs
        clear hx hx' hok hok' H1 H2 Hst
        generalize eqP p q = Q at *
        generalize opT p.t = op at *
        generalize nameT p.t = nm at *
        generalize numT p.t = nu at *
        generalize opT q.t = op' at *
        generalize nameT q.t = nm' at *
        generalize numT q.t = nu' at *
        generalize p.nm = x at *
        generalize q.nm = y at *
        cases Q with
        | true =>
          have hnew : Hid (F (k + 1) = F 0) := by show _ = _; rw [← hR.out, hs1]; rfl
          clear hR hs1
          go_wp2_with fail
          go_region_held3 (fun w' => w'.cell? ⟨bb, o + k * 5, none⟩ = some (.string x) ∧ w'.cell? ⟨bb, o + k * 5 + 1, none⟩ = some (.int .i64 op) ∧ w'.cell? ⟨bb, o + k * 5 + 1 + 1, none⟩ = some (.string nm) ∧ w'.cell? ⟨bb, o + k * 5 + 1 + 1 + 1, none⟩ = some (.int .i64 nu) ∧ w'.cell? ⟨bb, o + k * 5 + 1 + 1 + 1 + 1, none⟩ = some (.slice A M Cc) ∧ w'.cell? ⟨bb', o' + k * 5, none⟩ = some (.string y) ∧ w'.cell? ⟨bb', o' + k * 5 + 1, none⟩ = some (.int .i64 op') ∧ w'.cell? ⟨bb', o' + k * 5 + 1 + 1, none⟩ = some (.string nm') ∧ w'.cell? ⟨bb', o' + k * 5 + 1 + 1 + 1, none⟩ = some (.int .i64 nu') ∧ w'.cell? ⟨bb', o' + k * 5 + 1 + 1 + 1 + 1, none⟩ = some (.slice A' M' Cc'))
            (first | go_keep | (exact ⟨(B4.cell hb).trans y0, (B4.cell hb).trans y1, (B4.cell hb).trans y2, (B4.cell hb).trans y3, (B4.cell hb).trans y4, (B4.cell hb').trans z0, (B4.cell hb').trans z1, (B4.cell hb').trans z2, (B4.cell hb').trans z3, (B4.cell hb').trans z4⟩))
            (first | (go_at_call 58; ((with_reducible refine cs.mono ?_); rintro e w4 ⟨rfl, hb4⟩; have B4 := bel_trans hBd hb4)))
          go_wp2
          go_roundw
          case rel => exact ⟨_, k + 1, rfl, by omega, by go_num, bel_trans hB B4, hnew⟩
          case measure => simp [intOf]; omega
        | false =>
          have hnew : Hid (false = F 0) := by show _ = _; rw [← hR.out, hs1]; rfl
          clear hR hs1
          go_wp2_with fail
          go_region_held3 (fun w' => w'.cell? ⟨bb, o + k * 5, none⟩ = some (.string x) ∧ w'.cell? ⟨bb, o + k * 5 + 1, none⟩ = some (.int .i64 op) ∧ w'.cell? ⟨bb, o + k * 5 + 1 + 1, none⟩ = some (.string nm) ∧ w'.cell? ⟨bb, o + k * 5 + 1 + 1 + 1, none⟩ = some (.int .i64 nu) ∧ w'.cell? ⟨bb, o + k * 5 + 1 + 1 + 1 + 1, none⟩ = some (.slice A M Cc) ∧ w'.cell? ⟨bb', o' + k * 5, none⟩ = some (.string y) ∧ w'.cell? ⟨bb', o' + k * 5 + 1, none⟩ = some (.int .i64 op') ∧ w'.cell? ⟨bb', o' + k * 5 + 1 + 1, none⟩ = some (.string nm') ∧ w'.cell? ⟨bb', o' + k * 5 + 1 + 1 + 1, none⟩ = some (.int .i64 nu') ∧ w'.cell? ⟨bb', o' + k * 5 + 1 + 1 + 1 + 1, none⟩ = some (.slice A' M' Cc'))
            (first | go_keep | (exact ⟨(B4.cell hb).trans y0, (B4.cell hb).trans y1, (B4.cell hb).trans y2, (B4.cell hb).trans y3, (B4.cell hb).trans y4, (B4.cell hb').trans z0, (B4.cell hb').trans z1, (B4.cell hb').trans z2, (B4.cell hb').trans z3, (B4.cell hb').trans z4⟩))
            (first | (go_at_call 58; ((with_reducible refine cs.mono ?_); rintro e w4 ⟨rfl, hb4⟩; have B4 := bel_trans hBd hb4)))
          go_wp2
          go_ret
          exact ⟨oneB hnew.out, bel_trans hB B4⟩
      · have hnew : Hid (true = F 0) := by show _ = _; rw [← hR.out, He.out k (by omega)]
        clear hR
        go_wp2
        go_ret
        exact ⟨oneB hnew.out, hB⟩
  · have hf : Hid (false = eqPs l l') := (eqPs_len (by rw [← hG.1, ← hG'.1]; exact hmm)).symm
    have n1 : ((m : Int) != (m' : Int)) = true := by simp; omega
    clear hG hG' hmm
    go_enter Tryz.func28, Tryz.ntmps28
    go_wp2
    go_ret
    exact ⟨oneB hf.out, Below.refl _ _⟩
end Go.Proofs.YtnhemglpbhnmdaaGreat.U
