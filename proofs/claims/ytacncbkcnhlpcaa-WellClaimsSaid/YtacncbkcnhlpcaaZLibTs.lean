/-
  What is proved: what the document's count of a term's parts returns, which stops behind a bound.
-/
import Derived.Test.YtacncbkcnhlpcaaBL
namespace Go.Proofs.Ytacncbkcnhlpcaa.T
open Go.RowKit L
set_option linter.unusedVariables false
set_option linter.unusedSimpArgs false

mutual
theorem szTo_max : ∀ (t : Tm) (most : Nat), szTo most t ≤ most + 1
  | .mk o s n l, most => by rw [szTo]; have := szTos_max l most 1; omega
theorem szTos_max : ∀ (l : List Tm) (most n : Nat), szTos most n l ≤ max n (most + 1)
  | [], most, n => by rw [szTos]; omega
  | t :: l, most, n => by
    rw [szTos]
    split
    · have h1 := szTo_max t (most - n)
      have h2 := szTos_max l most (n + szTo (most - n) t)
      omega
    · omega
end
theorem szTo_args (most : Nat) (t : Tm) : szTo most t = szTos most 1 (argsT t) := by cases t; rw [szTo]; rfl
/-- the count, at this term -/
def SizeOk (t : Tm) : Prop := ∀ (a : Option Addr) (n c most : Nat) (w : World), most ≤ 1000000000 → ArW w t a n c →
  Calls Try.prog 12 #[.agg #[.int .i64 (opT t), .string (nameT t), .int .i64 (numT t), .slice a n c], .int .i64 most] w fun e w' => e = .returned (.int .i64 (szTo most t)) ∧ Below w.heap.size w w'

set_option maxRecDepth 100000 in
set_option maxHeartbeats 4000000 in
theorem Size_step (t : Tm) (hok : ∀ x ∈ argsT t, SizeOk x) : SizeOk t := by
  intro a n c most w hm hA
  obtain ⟨W2, hW2, hB2, hs2, S2⟩ := box1 w (opT t) (nameT t) (numT t) a n c
  have hT := TsW.b (ArW.args hA) hB2
  rw [szTo_args]
  generalize hl : argsT t = l at *
  have hst : ∀ k x q, l[k]? = some x → q ≤ most → szTos most q (l.drop k) = szTos most (q + szTo (most - q) x) (l.drop (k + 1)) := fun k x q h h2 => by rw [drop_t h, szTos, if_pos h2]
  have he : ∀ k q, n ≤ k → szTos most q (l.drop k) = q := fun k q h => by rw [List.drop_eq_nil_of_le (by rw [← hT.1]; exact h), szTos]
  have he2 : ∀ k q, most < q → szTos most q (l.drop k) = q := fun k q h => by
    cases hd : l.drop k with
    | nil => rw [szTos]
    | cons x r => rw [szTos, if_neg (by omega)]
  have hn : n ≤ 9223372036854775807 := by have h1 := hT.2.1; have h2 := hT.2.2.1; unfold maxLen at h2; omega
  have hk2 : ∀ k x, l[k]? = some x → SizeOk x := fun k x h => hok x (List.mem_of_getElem? h)
  have h0 : szTos most 1 l = szTos most 1 (l.drop 0) := rfl
  rw [h0]
  obtain ⟨F, hF⟩ : ∃ F : Nat → Nat → Nat, ∀ k q, szTos most q (l.drop k) = F k q := ⟨_, fun _ _ => rfl⟩
  simp only [hF] at hst he he2 ⊢
  generalize hRR : F 0 1 = R
  have HR0 := Lib.hid hRR
  clear hRR
  clear hF h0 hok
  obtain ⟨s0, s1, s2, s3⟩ := S2.four
  have H1 := Lib.hid hT
  have Hst := Lib.hid hst
  have He := Lib.hid he
  have He2 := Lib.hid he2
  have HK := Lib.hid hk2
  have HS := Lib.hid S2
  clear hA hT hst he he2 hk2 S2 hl s0 s1 s2
  generalize opT t = op at *
  generalize nameT t = nm at *
  generalize numT t = nu at *
  go_enter Try.func12, Try.ntmps12
  go_wp2
  go_loopw [5, 6] (fun q i wr0 => ∃ (wr : World) (k nk : Nat), wr = wr0 ∧ k ≤ n ∧ nk ≤ most + 1 ∧ q = .int .i64 nk ∧ i = .int .i64 k ∧ Below W2.heap.size W2 wr ∧ Hid (F k nk = R)) (fun q i _ => n - (intOf i).toNat)
  case atStart => exact ⟨_, 0, 1, rfl, by omega, by omega, rfl, rfl, Below.refl _ _, HR0⟩
  case round =>
    obtain ⟨wr, k, nk, rfl, hk, hnk, rfl, rfl, hB, hR⟩ := hrel
    obtain ⟨_, _, _, s3r⟩ := (TBox.b HS.out hB).four
    by_cases hlt : k < n
    · by_cases hq : nk ≤ most
      · obtain ⟨bb, o, x, A, M, Cc, rfl, hb, y0, y1, y2, y3, hx, hok⟩ := (TsW.b H1.out hB).at hlt
        have hs1 := Lib.hid (Hst.out k x nk hx hq)
        have cs := HK.out k x hx A M Cc (most - nk) wr (by omega) hok
        have hmx := szTo_max x (most - nk)
        have em : ((most - nk : Nat) : Int) = (most : Int) - (nk : Int) := by omega
        rw [em] at cs
        clear hx hok H1 Hst HK HS em
        generalize szTo (most - nk) x = sz at *
        generalize opT x = op' at *
        generalize nameT x = nm' at *
        generalize numT x = nu' at *
        have hnew : Hid (F (k + 1) (nk + sz) = R) := by show _ = _; rw [← hR.out, hs1.out]
        clear hR hs1
        have hk0 : 0 ≤ (k : Int) := by omega
        have hk1 : (k : Int) < (n : Int) := by omega
        go_wp2_with (go_at_call 12; ((with_reducible refine cs.mono ?_); rintro e w4 ⟨rfl, hb4⟩))
        go_roundw
        case rel => exact ⟨_, k + 1, nk + sz, rfl, by omega, by omega, by go_num, by go_num, bel_trans hB hb4, hnew⟩
        case measure => simp [intOf]; omega
      · have hnew : Hid (nk = R) := by show _ = _; rw [← hR.out, He2.out k nk (by omega)]
        clear hR
        go_wp2
        go_ret
        exact ⟨one (by rw [← hnew.out]), bel_trans hB2 hB⟩
    · have hnew : Hid (nk = R) := by show _ = _; rw [← hR.out, He.out k nk (by omega)]
      clear hR
      go_wp2
      go_ret
      exact ⟨one (by rw [← hnew.out]), bel_trans hB2 hB⟩
theorem Size_any (t : Tm) : SizeOk t := Tm.ind Size_step t
end Go.Proofs.Ytacncbkcnhlpcaa.T
