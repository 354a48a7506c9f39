/-
  What is proved: whether a substitution has at most twelve pairs, of terms of at most sixty parts each.
  What is proved: whether two pairs are the same: the base's Pair.
  What is proved: whether two lists of pairs are the same: the base's Pairs.
-/
import Derived.Test.YteidknjhponpkaaBS
import Derived.Test.YteidknjhponpkaaBT
import Derived.Test.YteidknjhponpkaaBB
import Derived.Test.YteidknjhponpkaaBL
import Derived.BigQuiet
import Derived.Deep.RegionHeld3
namespace Go.Proofs.Yteidknjhponpkaa.U
open Go.RowKit L T C B
set_option linter.unusedVariables false
set_option linter.unusedSimpArgs false

def smallUs (l : List Pr) : Bool := l.all (fun p => decide (size p.t ≤ 60))
def smallU (l : List Pr) : Bool := smallUs l && decide (l.length ≤ 12)
theorem smallU_of {l : List Pr} (h : smallU l = true) : l.length ≤ 12 ∧ ∀ p ∈ l, size p.t ≤ 60 := by
  unfold smallU smallUs at h
  rw [Bool.and_eq_true, List.all_eq_true, decide_eq_true_eq] at h
  exact ⟨h.2, fun p hp => by simpa using h.1 p hp⟩
theorem smallUs_step {l : List Pr} {k : Nat} {p : Pr} (h : l[k]? = some p) : smallUs (l.drop k) = (decide (size p.t ≤ 60) && smallUs (l.drop (k + 1))) := by
  rw [drop_u h]; rfl
theorem small_one (t : Tm) : small [t] = decide (size t ≤ 60) := by unfold small; simp
set_option maxRecDepth 100000 in
set_option maxHeartbeats 4000000 in
theorem SmallU_any (l : List Pr) (a : Option Addr) (n c : Nat) (w : World) (H : UsW w a n c l) : Calls Try.prog 13 #[.slice a n c] w fun e w' => e = .returned (.bool (smallU l)) ∧ Below w.heap.size w w' := by
  have hn : n = l.length := H.1
  have hc : n ≤ 9223372036854775807 := H.lt63
  have H1 := Lib.hid H
  have Hst : Hid (∀ k p, l[k]? = some p → (smallUs (l.drop k) && decide (l.length ≤ 12)) = (decide (size p.t ≤ 60) && (smallUs (l.drop (k + 1)) && decide (l.length ≤ 12)))) := fun k p h => by rw [smallUs_step h, Bool.and_assoc]
  have Hend : Hid (∀ k, n ≤ k → (smallUs (l.drop k) && decide (l.length ≤ 12)) = decide ((n : Int) ≤ 12)) := by
    intro k hk
    rw [List.drop_eq_nil_of_le (by omega), ← hn]
    show (true && _) = _
    rw [Bool.true_and]
    exact decide_eq_decide.2 (by omega)
  have HR0 : Hid ((smallUs (l.drop 0) && decide (l.length ≤ 12)) = smallU l) := by show _ = _; rw [List.drop_zero]; rfl
  generalize hR : smallU l = R at *
  obtain ⟨F, hF⟩ : ∃ F : Nat → Bool, ∀ k, (smallUs (l.drop k) && decide (l.length ≤ 12)) = F k := ⟨_, fun _ => rfl⟩
  simp only [hF] at Hst Hend HR0
  clear hR H hn hF
  go_enter Try.func13, Try.ntmps13
  go_wp2
  go_loopw [3] (fun i wr0 => ∃ (wr : World) (k : Nat), wr = wr0 ∧ k ≤ n ∧ i = .int .i64 k ∧ Below w.heap.size w wr ∧ Hid (F k = R)) (fun i _ => n - (intOf i).toNat)
  case atStart => exact ⟨_, 0, rfl, by omega, rfl, Below.refl _ _, HR0⟩
  case round =>
    obtain ⟨wr, k, rfl, hk, rfl, hB, hR⟩ := hrel
    by_cases hlt : k < n
    · obtain ⟨bb, o, x, A', M, Cc, rfl, hb, y0, y1, y2, y3, y4, hx, hok⟩ := (UsW.b H1.out hB).at hlt
      obtain ⟨W4, hW4, hB4, hs4, S4⟩ := box1 wr (opT x.t) (nameT x.t) (numT x.t) A' M Cc
      have cs := Small_any [x.t] (some ⟨wr.heap.size, 0, none⟩) 1 1 W4 (tbox_ts S4 (ArW.b hok hB4))
      rw [small_one] at cs
      have hs1 := Hst.out k x hx
      clear hx hok H1 Hst S4 hs4
      generalize opT x.t = op' at *
      generalize nameT x.t = nm' at *
      generalize numT x.t = nu' at *
      have hk0 : 0 ≤ (k : Int) := by omega
      have hk1 : (k : Int) < (n : Int) := by omega
      cases hq : decide (size x.t ≤ 60) with
      | true =>
        have hnew : Hid (F (k + 1) = R) := by show _ = _; rw [← hR.out, hs1, hq]; rfl
        rw [hq] at cs
        clear hR hs1 hq
        go_wp2_with (go_at_call 26; ((with_reducible refine cs.mono ?_); rintro e w4 ⟨rfl, hb4⟩))
        go_roundw
        case rel => exact ⟨_, k + 1, rfl, by omega, by go_num, bel_trans (bel_trans hB hB4) hb4, hnew⟩
        case measure => simp [intOf]; omega
      | false =>
        have hnew : Hid (false = R) := by show _ = _; rw [← hR.out, hs1, hq]; rfl
        rw [hq] at cs
        clear hR hs1 hq
        go_wp2_with (go_at_call 26; ((with_reducible refine cs.mono ?_); rintro e w4 ⟨rfl, hb4⟩))
        go_ret
        exact ⟨oneB hnew.out, bel_trans (bel_trans hB hB4) hb4⟩
    · have hnew : Hid (decide ((n : Int) ≤ 12) = R) := by show _ = _; rw [← hR.out, Hend.out k (by omega)]
      clear hR
      go_wp2
      go_ret
      exact ⟨oneB hnew.out, hB⟩
end Go.Proofs.Yteidknjhponpkaa.U
namespace Go.Proofs.Yteidknjhponpkaa.U
open Go.RowKit L T
set_option linter.unusedVariables false
set_option linter.unusedSimpArgs false

set_option maxRecDepth 100000 in
set_option maxHeartbeats 4000000 in
theorem Pair_any (p q : Pr) (a : Option Addr) (n c : Nat) (a' : Option Addr) (n' c' : Nat) (w : World) (hA : ArW w p.t a n c) (hA' : ArW w q.t a' n' c') :
    Calls Try.prog 30 #[prV p.nm p.t a n c, prV q.nm q.t a' n' c'] w fun e w' => e = .returned (.bool (eqP p q)) ∧ Below w.heap.size w w' := by
  obtain ⟨W3, hW3, hB3, hs3, S3, R3⟩ := ubox2 w p.nm (opT p.t) (nameT p.t) (numT p.t) a n c q.nm (opT q.t) (nameT q.t) (numT q.t) a' n' c'
  have cT := Term_any p.t q.t a n c a' n' c' W3 (ArW.b hA hB3) (ArW.b hA' hB3)
  unfold eqP prV
  obtain ⟨s0, s1, s2, s3, s4⟩ := S3.five
  obtain ⟨r0, r1, r2, r3, r4⟩ := R3.five
  clear hA hA' S3 R3
  generalize hE : eqT p.t q.t = E at *
  generalize opT p.t = op at *
  generalize nameT p.t = nm at *
  generalize numT p.t = nu at *
  generalize opT q.t = op' at *
  generalize nameT q.t = nm' at *
  generalize numT q.t = nu' at *
  generalize p.nm = x at *
  generalize q.nm = y at *
  clear hE
  cases hxy : x.toList == y.toList with
  | true =>
    go_enter Try.func30, Try.ntmps30
    go_wp2_with (go_at_call 27; ((with_reducible refine cT.mono ?_); rintro e w4 ⟨rfl, hb4⟩))
    go_ret
    exact ⟨by simp, bel_trans hB3 hb4⟩
  | false =>
    clear cT
    go_enter Try.func30, Try.ntmps30
    go_wp2
    go_ret
    exact ⟨by simp, hB3⟩
end Go.Proofs.Yteidknjhponpkaa.U
namespace Go.Proofs.Yteidknjhponpkaa.U
open Go.RowKit L T
set_option linter.unusedVariables false
set_option linter.unusedSimpArgs false

set_option maxRecDepth 100000 in
set_option maxHeartbeats 4000000 in
theorem Pairs_any (l l' : List Pr) (b : Option Addr) (m d : Nat) (b' : Option Addr) (m' d' : Nat) (w : World) (hG : UsW w b m d l) (hG' : UsW w b' m' d' l') :
    Calls Try.prog 15 #[.slice b m d, .slice b' m' d'] w fun e w' => e = .returned (.bool (eqPs l l')) ∧ Below w.heap.size w w' := by
  by_cases hmm : m = m'
  · subst hmm
    have hst : ∀ k (f g : Pr), l[k]? = some f → l'[k]? = some g → eqPs (l.drop k) (l'.drop k) = (eqP f g && eqPs (l.drop (k + 1)) (l'.drop (k + 1))) := fun k f g h h2 => by rw [drop_u h, drop_u h2, eqPs]
    have he : ∀ k, m ≤ k → eqPs (l.drop k) (l'.drop k) = true := fun k h => by
      rw [List.drop_eq_nil_of_le (by rw [← hG.1]; exact h), List.drop_eq_nil_of_le (by rw [← hG'.1]; exact h)]; rfl
    have h0 : eqPs l l' = eqPs (l.drop 0) (l'.drop 0) := rfl
    have hm : m ≤ 9223372036854775807 := hG.lt63
    rw [h0]
    obtain ⟨F, hF⟩ : ∃ F : Nat → Bool, ∀ k, eqPs (l.drop k) (l'.drop k) = F k := ⟨_, fun _ => rfl⟩
    simp only [hF] at hst he ⊢
    clear hF h0
    have H1 := Lib.hid hG
    have H2 := Lib.hid hG'
    have Hst := Lib.hid hst
    have He := Lib.hid he
    clear hG hG' hst he
    go_enter Try.func15, Try.ntmps15
    go_wp2
    go_loopw [5] (fun i wr0 => ∃ (wr : World) (k : Nat), wr = wr0 ∧ k ≤ m ∧ i = .int .i64 k ∧ Below w.heap.size w wr ∧ Hid (F k = F 0)) (fun i _ => m - (intOf i).toNat)
    case atStart => exact ⟨_, 0, rfl, by omega, rfl, Below.refl _ _, Lib.hid rfl⟩
    case round =>
      obtain ⟨wr, k, rfl, hk, rfl, hB, hR⟩ := hrel
      by_cases hlt : k < m
      · obtain ⟨bb, o, p, A, M, Cc, rfl, hb, y0, y1, y2, y3, y4, hx, hok⟩ := (UsW.b H1.out hB).at hlt
        obtain ⟨bb', o', q, A', M', Cc', rfl, hb', z0, z1, z2, z3, z4, hx', hok'⟩ := (UsW.b H2.out hB).at hlt
        have hs1 := Hst.out k p q hx hx'
        have hk0 : 0 ≤ (k : Int) := by omega
        have hk1 : (k : Int) < (m : Int) := by omega
        have hBd : Below wr.heap.size wr wr.drew := (Below.refl _ _).drew
        have cs := Pair_any p q A M Cc A' M' Cc' wr.drew (ArW.b hok hBd) (ArW.b hok' hBd)
        unfold prV at cs
        clear hx hx' hok hok' H1 H2 Hst
        generalize eqP p q = Q at *
        generalize opT p.t = op at *
        generalize nameT p.t = nm at *
        generalize numT p.t = nu at *
        generalize opT q.t = op' at *
        generalize nameT q.t = nm' at *
        generalize numT q.t = nu' at *
        generalize p.nm = x at *
        generalize q.nm = y at *
        cases Q with
        | true =>
          have hnew : Hid (F (k + 1) = F 0) := by show _ = _; rw [← hR.out, hs1]; rfl
          clear hR hs1
          go_wp2_with fail
          go_region_held3 (fun w' => w'.cell? ⟨bb, o + k * 5, none⟩ = some (.string x) ∧ w'.cell? ⟨bb, o + k * 5 + 1, none⟩ = some (.int .i64 op) ∧ w'.cell? ⟨bb, o + k * 5 + 1 + 1, none⟩ = some (.string nm) ∧ w'.cell? ⟨bb, o + k * 5 + 1 + 1 + 1, none⟩ = some (.int .i64 nu) ∧ w'.cell? ⟨bb, o + k * 5 + 1 + 1 + 1 + 1, none⟩ = some (.slice A M Cc) ∧ w'.cell? ⟨bb', o' + k * 5, none⟩ = some (.string y) ∧ w'.cell? ⟨bb', o' + k * 5 + 1, none⟩ = some (.int .i64 op') ∧ w'.cell? ⟨bb', o' + k * 5 + 1 + 1, none⟩ = some (.string nm') ∧ w'.cell? ⟨bb', o' + k * 5 + 1 + 1 + 1, none⟩ = some (.int .i64 nu') ∧ w'.cell? ⟨bb', o' + k * 5 + 1 + 1 + 1 + 1, none⟩ = some (.slice A' M' Cc'))
            (first | go_keep | (exact ⟨(B4.cell hb).trans y0, (B4.cell hb).trans y1, (B4.cell hb).trans y2, (B4.cell hb).trans y3, (B4.cell hb).trans y4, (B4.cell hb').trans z0, (B4.cell hb').trans z1, (B4.cell hb').trans z2, (B4.cell hb').trans z3, (B4.cell hb').trans z4⟩))
            (first | (go_at_call 30; ((with_reducible refine cs.mono ?_); rintro e w4 ⟨rfl, hb4⟩; have B4 := bel_trans hBd hb4)))
          go_wp2
          go_roundw
          case rel => exact ⟨_, k + 1, rfl, by omega, by go_num, bel_trans hB B4, hnew⟩
          case measure => simp [intOf]; omega
        | false =>
          have hnew : Hid (false = F 0) := by show _ = _; rw [← hR.out, hs1]; rfl
          clear hR hs1
          go_wp2_with fail
          go_region_held3 (fun w' => w'.cell? ⟨bb, o + k * 5, none⟩ = some (.string x) ∧ w'.cell? ⟨bb, o + k * 5 + 1, none⟩ = some (.int .i64 op) ∧ w'.cell? ⟨bb, o + k * 5 + 1 + 1, none⟩ = some (.string nm) ∧ w'.cell? ⟨bb, o + k * 5 + 1 + 1 + 1, none⟩ = some (.int .i64 nu) ∧ w'.cell? ⟨bb, o + k * 5 + 1 + 1 + 1 + 1, none⟩ = some (.slice A M Cc) ∧ w'.cell? ⟨bb', o' + k * 5, none⟩ = some (.string y) ∧ w'.cell? ⟨bb', o' + k * 5 + 1, none⟩ = some (.int .i64 op') ∧ w'.cell? ⟨bb', o' + k * 5 + 1 + 1, none⟩ = some (.string nm') ∧ w'.cell? ⟨bb', o' + k * 5 + 1 + 1 + 1, none⟩ = some (.int .i64 nu') ∧ w'.cell? ⟨bb', o' + k * 5 + 1 + 1 + 1 + 1, none⟩ = some (.slice A' M' Cc'))
            (first | go_keep | (exact ⟨(B4.cell hb).trans y0, (B4.cell hb).trans y1, (B4.cell hb).trans y2, (B4.cell hb).trans y3, (B4.cell hb).trans y4, (B4.cell hb').trans z0, (B4.cell hb').trans z1, (B4.cell hb').trans z2, (B4.cell hb').trans z3, (B4.cell hb').trans z4⟩))
            (first | (go_at_call 30; ((with_reducible refine cs.mono ?_); rintro e w4 ⟨rfl, hb4⟩; have B4 := bel_trans hBd hb4)))
          go_wp2
          go_ret
          exact ⟨oneB hnew.out, bel_trans hB B4⟩
      · have hnew : Hid (true = F 0) := by show _ = _; rw [← hR.out, He.out k (by omega)]
        clear hR
        go_wp2
        go_ret
        exact ⟨oneB hnew.out, hB⟩
  · have hf : Hid (false = eqPs l l') := (eqPs_len (by rw [← hG.1, ← hG'.1]; exact hmm)).symm
    have n1 : ((m : Int) != (m' : Int)) = true := by simp; omega
    clear hG hG' hmm
    go_enter Try.func15, Try.ntmps15
    go_wp2
    go_ret
    exact ⟨oneB hf.out, Below.refl _ _⟩
end Go.Proofs.Yteidknjhponpkaa.U
