/-
  What is proved: the text of a number, of a negation and of a product, by a scope; of any term.
-/
import Derived.Test.YtcigeclnbhcohaaGreatDoorZShTc
namespace Go.Proofs.YtcigeclnbhcohaaGreatDoor.Sh
open Go.RowKit L T C
set_option linter.unusedVariables false
set_option linter.unusedSimpArgs false
set_option maxRecDepth 100000

set_option maxHeartbeats 4000000 in
theorem term_num {W : World} (E : Env W) (s : ByteArray) (nu : Int) (h0 : -9223372036854775808 ≤ nu) (h1 : nu ≤ 9223372036854775807)
    (z : Sv) (m : Int) (a : Option Addr) (n c : Nat) (w : World) (hw : Below W.heap.size W w) :
    Calls Tryz.prog 33 #[z.val, .agg #[.int .i64 4, .string s, .int .i64 nu, .slice a n c], .int .i64 m] w fun e w' => e = .returned (.string (par (decide (nu < 0) && decide (m < 5)) (dig nu))) ∧ Below w.heap.size w w' := by
  obtain ⟨W1, hW1, hB1, hs1, S1, T1⟩ := sbox2 w z.a z.n z.c z.b z.m z.d 4 s nu a n c
  obtain ⟨W2, hW2, hB2, hs2, p0, p1, i0, i1, f0, f1⟩ := obox2 W1 ⟨#[]⟩ 0
  have hB12 : Below w.heap.size w W2 := bel_trans hB1 hB2
  obtain ⟨g0, g1⟩ : W1.cell? ⟨0, 8, none⟩ = some (.string ⟨#[]⟩) ∧ W1.cell? ⟨0, 9, none⟩ = some (.int .i64 0) := E.top W1 (hw.trans (hB1.mono hw.size)) 4 (by decide)
  obtain ⟨t0, t1, t2, t3⟩ := (TBox.b T1 hB2).four
  obtain ⟨u0, u1, u2, u3⟩ := T1.four
  rw [hs1] at p0 p1 i0 i1 f0 f1
  have B2d : Below W2.heap.size W2 W2.drew := (Below.refl _ _).drew
  have ct := E.text nu h0 h1 W2.drew ((hw.trans (hB12.mono hw.size)).trans (B2d.mono (Nat.le_trans hw.size hB12.size)))
  have hd := dig_size h0 h1
  have cP := fun b => par_any (dig nu) b (by omega)
  have l2 : w.heap.size + 1 < W2.heap.size := by omega
  have HS := Lib.hid (show ∀ w', Below W2.heap.size W2 w' → w'.cell? ⟨w.heap.size + 1, 2, none⟩ = some (.int .i64 nu) from fun w' h => (h.cell (p := ⟨w.heap.size + 1, 2, none⟩) l2).trans t2)
  have Bk := Lib.hid B2d
  unfold Sv.val
  have HB := Lib.hid hB12
  clear S1 T1 E hw hB1 hB2 hd hB12
  generalize dig nu = D at *
  obtain ⟨za, zn, zc, zb, zm, zd⟩ := z
  dsimp only at *
  by_cases hz : nu < 0
  · have k1 : decide (nu < 0) = true := decide_eq_true hz
    by_cases hm : m < 5
    · have k2 : decide (m < 5) = true := decide_eq_true hm
      rw [k1, k2]
      clear hz hm
      go_enter Tryz.func33, Tryz.ntmps33
      go_wp2
      go_wp2_with fail
      refine wp_region_noPanic ?_
      refine wp_region_held_drew (S := fun w' => w'.cell? ⟨w.heap.size + 1, 2, none⟩ = some (.int .i64 nu)) (by kernel_rfl) (by exact HS.out _ Bk.out) (fun hHeld => ?_)
      refine wpAnyH_take (i := 0) (v := ?_) rfl (by kernel_rfl) (by kernel_rfl) (by kernel_rfl) (fun _ _ _ h => h) (Or.inl ⟨by rfl, ?hy⟩) (by assumption) ?_
      case hy => (intro w hSw; (try dsimp only at hSw); go_simp; try (with_reducible rfl))
      (try simp only [List.getElem_toArray, List.getElem_cons_succ, List.getElem_cons_zero, Act.put, List.setIfInBounds_toArray, List.set_cons_zero, List.set_cons_succ])
      refine wpAnyH_take (i := 1) (v := ?_) rfl (by kernel_rfl) (by kernel_rfl) (by kernel_rfl) (fun _ _ _ h => h) (Or.inl ⟨by rfl, ?hy⟩) (by assumption) ?_
      case hy => (intro w hSw; (try dsimp only at hSw); go_simp; try (with_reducible rfl))
      (try simp only [List.getElem_toArray, List.getElem_cons_succ, List.getElem_cons_zero, Act.put, List.setIfInBounds_toArray, List.set_cons_zero, List.set_cons_succ])
      refine wpAnyH_take (i := 3) (v := ?_) rfl (by kernel_rfl) (by kernel_rfl) (by kernel_rfl) (fun _ _ _ h => h) (Or.inl ⟨by rfl, ?hy⟩) (by assumption) ?_
      case hy => (intro w hSw; (try dsimp only at hSw); go_simp; try (with_reducible rfl))
      (try simp only [List.getElem_toArray, List.getElem_cons_succ, List.getElem_cons_zero, Act.put, List.setIfInBounds_toArray, List.set_cons_zero, List.set_cons_succ])
      refine wpAnyH_take (i := 4) (v := ?_) rfl (by kernel_rfl) (by kernel_rfl) (by kernel_rfl) (fun _ _ _ h => h) (Or.inl ⟨by rfl, ?hy⟩) (by assumption) ?_
      case hy => (intro w hSw; (try dsimp only at hSw); go_simp; try (with_reducible rfl))
      (try simp only [List.getElem_toArray, List.getElem_cons_succ, List.getElem_cons_zero, Act.put, List.setIfInBounds_toArray, List.set_cons_zero, List.set_cons_succ])
      refine wpAnyH_take (i := 5) (v := ?_) rfl (by kernel_rfl) (by kernel_rfl) (by kernel_rfl) (fun _ _ _ h => h) (Or.inl ⟨by rfl, ?hy⟩) (by assumption) ?_
      case hy => (intro w hSw; (try dsimp only at hSw); go_simp; try (with_reducible rfl))
      (try simp only [List.getElem_toArray, List.getElem_cons_succ, List.getElem_cons_zero, Act.put, List.setIfInBounds_toArray, List.set_cons_zero, List.set_cons_succ])
      refine wpAnyH_ready (rs := [2]) (by kernel_rfl) (by simp) ?_
      refine AllReadyH.cons rfl (fun KK hKK => ?_) AllReadyH.nil
      go_simp
      (go_at_call 58; ((with_reducible refine ct.mono ?_); rintro e w6 ⟨rfl, hb6⟩; clear ct; have B6 := bel_trans B2d hb6))
      refine hKK.out _ _ (by exact HS.out _ B6) (fun hHeld => ?_)
      clear hKK KK
      (try simp only [List.getElem_toArray, List.getElem_cons_succ, List.getElem_cons_zero, Act.put, List.setIfInBounds_toArray, List.set_cons_zero, List.set_cons_succ])
      refine wpAnyH_take (i := 6) (v := ?_) rfl (by kernel_rfl) (by kernel_rfl) (by kernel_rfl) (fun _ _ _ h => h) (Or.inl ⟨by rfl, ?hy⟩) (by assumption) ?_
      case hy => (intro w hSw; (try dsimp only at hSw); go_simp; try (with_reducible rfl))
      (try simp only [List.getElem_toArray, List.getElem_cons_succ, List.getElem_cons_zero, Act.put, List.setIfInBounds_toArray, List.set_cons_zero, List.set_cons_succ])
      refine wpAnyH_take (i := 7) (v := ?_) rfl (by kernel_rfl) (by kernel_rfl) (by kernel_rfl) (fun _ _ _ h => h) (Or.inl ⟨by rfl, ?hy⟩) (by assumption) ?_
      case hy => (intro w hSw; (try dsimp only at hSw); go_simp; try (with_reducible rfl))
      (try simp only [List.getElem_toArray, List.getElem_cons_succ, List.getElem_cons_zero, Act.put, List.setIfInBounds_toArray, List.set_cons_zero, List.set_cons_succ])
      refine wpAnyH_take (i := 8) (v := ?_) rfl (by kernel_rfl) (by kernel_rfl) (by kernel_rfl) (fun _ _ _ h => h) (Or.inl ⟨by rfl, ?hy⟩) (by assumption) ?_
      case hy => (intro w hSw; (try dsimp only at hSw); go_simp; try (with_reducible rfl))
      (try simp only [List.getElem_toArray, List.getElem_cons_succ, List.getElem_cons_zero, Act.put, List.setIfInBounds_toArray, List.set_cons_zero, List.set_cons_succ])
      refine wpAnyH_take (i := 9) (v := ?_) rfl (by kernel_rfl) (by kernel_rfl) (by kernel_rfl) (fun _ _ _ h => h) (Or.inl ⟨by rfl, ?hy⟩) (by assumption) ?_
      case hy => (intro w hSw; (try dsimp only at hSw); go_simp; try (with_reducible rfl))
      (try simp only [List.getElem_toArray, List.getElem_cons_succ, List.getElem_cons_zero, Act.put, List.setIfInBounds_toArray, List.set_cons_zero, List.set_cons_succ])
      refine wpAnyH_ready (rs := [10]) (by kernel_rfl) (by simp) ?_
      refine AllReadyH.cons rfl (fun KK hKK => ?_) AllReadyH.nil
      go_simp
      (go_at_call 57; ((with_reducible refine (cP true _).mono ?_); rintro e w7 ⟨rfl, hb7⟩; have B7 := bel_trans B6 hb7))
      refine hKK.out _ _ (by exact HS.out _ B7) (fun hHeld => ?_)
      clear hKK KK
      (try simp only [List.getElem_toArray, List.getElem_cons_succ, List.getElem_cons_zero, Act.put, List.setIfInBounds_toArray, List.set_cons_zero, List.set_cons_succ])
      refine wpAnyH_take (i := 11) (v := ?_) rfl (by kernel_rfl) (by kernel_rfl) (by kernel_rfl) (fun _ _ _ h => h) (Or.inl ⟨by rfl, ?hy⟩) (by assumption) ?_
      case hy => (intro w hSw; (try dsimp only at hSw); go_simp; try (with_reducible rfl))
      (try simp only [List.getElem_toArray, List.getElem_cons_succ, List.getElem_cons_zero, Act.put, List.setIfInBounds_toArray, List.set_cons_zero, List.set_cons_succ])
      refine wpAnyH_done (by kernel_rfl) ?_ _
      refine NoPanic.normal ?_
      all_goals go_wp2
      all_goals go_ret
      exact ⟨rfl, bel_trans HB.out B7⟩
    · have k2 : decide (m < 5) = false := decide_eq_false hm
      rw [k1, k2]
      clear hz hm
      go_enter Tryz.func33, Tryz.ntmps33
      go_wp2
      go_wp2_with fail
      refine wp_region_noPanic ?_
      refine wp_region_held_drew (S := fun w' => w'.cell? ⟨w.heap.size + 1, 2, none⟩ = some (.int .i64 nu)) (by kernel_rfl) (by exact HS.out _ Bk.out) (fun hHeld => ?_)
      refine wpAnyH_take (i := 0) (v := ?_) rfl (by kernel_rfl) (by kernel_rfl) (by kernel_rfl) (fun _ _ _ h => h) (Or.inl ⟨by rfl, ?hy⟩) (by assumption) ?_
      case hy => (intro w hSw; (try dsimp only at hSw); go_simp; try (with_reducible rfl))
      (try simp only [List.getElem_toArray, List.getElem_cons_succ, List.getElem_cons_zero, Act.put, List.setIfInBounds_toArray, List.set_cons_zero, List.set_cons_succ])
      refine wpAnyH_take (i := 1) (v := ?_) rfl (by kernel_rfl) (by kernel_rfl) (by kernel_rfl) (fun _ _ _ h => h) (Or.inl ⟨by rfl, ?hy⟩) (by assumption) ?_
      case hy => (intro w hSw; (try dsimp only at hSw); go_simp; try (with_reducible rfl))
      (try simp only [List.getElem_toArray, List.getElem_cons_succ, List.getElem_cons_zero, Act.put, List.setIfInBounds_toArray, List.set_cons_zero, List.set_cons_succ])
      refine wpAnyH_take (i := 3) (v := ?_) rfl (by kernel_rfl) (by kernel_rfl) (by kernel_rfl) (fun _ _ _ h => h) (Or.inl ⟨by rfl, ?hy⟩) (by assumption) ?_
      case hy => (intro w hSw; (try dsimp only at hSw); go_simp; try (with_reducible rfl))
      (try simp only [List.getElem_toArray, List.getElem_cons_succ, List.getElem_cons_zero, Act.put, List.setIfInBounds_toArray, List.set_cons_zero, List.set_cons_succ])
      refine wpAnyH_take (i := 4) (v := ?_) rfl (by kernel_rfl) (by kernel_rfl) (by kernel_rfl) (fun _ _ _ h => h) (Or.inl ⟨by rfl, ?hy⟩) (by assumption) ?_
      case hy => (intro w hSw; (try dsimp only at hSw); go_simp; try (with_reducible rfl))
      (try simp only [List.getElem_toArray, List.getElem_cons_succ, List.getElem_cons_zero, Act.put, List.setIfInBounds_toArray, List.set_cons_zero, List.set_cons_succ])
      refine wpAnyH_take (i := 5) (v := ?_) rfl (by kernel_rfl) (by kernel_rfl) (by kernel_rfl) (fun _ _ _ h => h) (Or.inl ⟨by rfl, ?hy⟩) (by assumption) ?_
      case hy => (intro w hSw; (try dsimp only at hSw); go_simp; try (with_reducible rfl))
      (try simp only [List.getElem_toArray, List.getElem_cons_succ, List.getElem_cons_zero, Act.put, List.setIfInBounds_toArray, List.set_cons_zero, List.set_cons_succ])
      refine wpAnyH_ready (rs := [2]) (by kernel_rfl) (by simp) ?_
      refine AllReadyH.cons rfl (fun KK hKK => ?_) AllReadyH.nil
      go_simp
      (go_at_call 58; ((with_reducible refine ct.mono ?_); rintro e w6 ⟨rfl, hb6⟩; clear ct; have B6 := bel_trans B2d hb6))
      refine hKK.out _ _ (by exact HS.out _ B6) (fun hHeld => ?_)
      clear hKK KK
      (try simp only [List.getElem_toArray, List.getElem_cons_succ, List.getElem_cons_zero, Act.put, List.setIfInBounds_toArray, List.set_cons_zero, List.set_cons_succ])
      refine wpAnyH_take (i := 6) (v := ?_) rfl (by kernel_rfl) (by kernel_rfl) (by kernel_rfl) (fun _ _ _ h => h) (Or.inl ⟨by rfl, ?hy⟩) (by assumption) ?_
      case hy => (intro w hSw; (try dsimp only at hSw); go_simp; try (with_reducible rfl))
      (try simp only [List.getElem_toArray, List.getElem_cons_succ, List.getElem_cons_zero, Act.put, List.setIfInBounds_toArray, List.set_cons_zero, List.set_cons_succ])
      refine wpAnyH_take (i := 7) (v := ?_) rfl (by kernel_rfl) (by kernel_rfl) (by kernel_rfl) (fun _ _ _ h => h) (Or.inl ⟨by rfl, ?hy⟩) (by assumption) ?_
      case hy => (intro w hSw; (try dsimp only at hSw); go_simp; try (with_reducible rfl))
      (try simp only [List.getElem_toArray, List.getElem_cons_succ, List.getElem_cons_zero, Act.put, List.setIfInBounds_toArray, List.set_cons_zero, List.set_cons_succ])
      refine wpAnyH_take (i := 8) (v := ?_) rfl (by kernel_rfl) (by kernel_rfl) (by kernel_rfl) (fun _ _ _ h => h) (Or.inl ⟨by rfl, ?hy⟩) (by assumption) ?_
      case hy => (intro w hSw; (try dsimp only at hSw); go_simp; try (with_reducible rfl))
      (try simp only [List.getElem_toArray, List.getElem_cons_succ, List.getElem_cons_zero, Act.put, List.setIfInBounds_toArray, List.set_cons_zero, List.set_cons_succ])
      refine wpAnyH_take (i := 9) (v := ?_) rfl (by kernel_rfl) (by kernel_rfl) (by kernel_rfl) (fun _ _ _ h => h) (Or.inl ⟨by rfl, ?hy⟩) (by assumption) ?_
      case hy => (intro w hSw; (try dsimp only at hSw); go_simp; try (with_reducible rfl))
      (try simp only [List.getElem_toArray, List.getElem_cons_succ, List.getElem_cons_zero, Act.put, List.setIfInBounds_toArray, List.set_cons_zero, List.set_cons_succ])
      refine wpAnyH_ready (rs := [10]) (by kernel_rfl) (by simp) ?_
      refine AllReadyH.cons rfl (fun KK hKK => ?_) AllReadyH.nil
      go_simp
      (go_at_call 57; ((with_reducible refine (cP false _).mono ?_); rintro e w7 ⟨rfl, hb7⟩; have B7 := bel_trans B6 hb7))
      refine hKK.out _ _ (by exact HS.out _ B7) (fun hHeld => ?_)
      clear hKK KK
      (try simp only [List.getElem_toArray, List.getElem_cons_succ, List.getElem_cons_zero, Act.put, List.setIfInBounds_toArray, List.set_cons_zero, List.set_cons_succ])
      refine wpAnyH_take (i := 11) (v := ?_) rfl (by kernel_rfl) (by kernel_rfl) (by kernel_rfl) (fun _ _ _ h => h) (Or.inl ⟨by rfl, ?hy⟩) (by assumption) ?_
      case hy => (intro w hSw; (try dsimp only at hSw); go_simp; try (with_reducible rfl))
      (try simp only [List.getElem_toArray, List.getElem_cons_succ, List.getElem_cons_zero, Act.put, List.setIfInBounds_toArray, List.set_cons_zero, List.set_cons_succ])
      refine wpAnyH_done (by kernel_rfl) ?_ _
      refine NoPanic.normal ?_
      all_goals go_wp2
      all_goals go_ret
      exact ⟨rfl, bel_trans HB.out B7⟩
  · have k1 : decide (nu < 0) = false := decide_eq_false hz
    rw [k1]
    clear hz
    go_enter Tryz.func33, Tryz.ntmps33
    go_wp2
    go_wp2_with fail
    refine wp_region_noPanic ?_
    refine wp_region_held_drew (S := fun w' => w'.cell? ⟨w.heap.size + 1, 2, none⟩ = some (.int .i64 nu)) (by kernel_rfl) (by exact HS.out _ Bk.out) (fun hHeld => ?_)
    refine wpAnyH_take (i := 0) (v := ?_) rfl (by kernel_rfl) (by kernel_rfl) (by kernel_rfl) (fun _ _ _ h => h) (Or.inl ⟨by rfl, ?hy⟩) (by assumption) ?_
    case hy => (intro w hSw; (try dsimp only at hSw); go_simp; try (with_reducible rfl))
    (try simp only [List.getElem_toArray, List.getElem_cons_succ, List.getElem_cons_zero, Act.put, List.setIfInBounds_toArray, List.set_cons_zero, List.set_cons_succ])
    refine wpAnyH_take (i := 1) (v := ?_) rfl (by kernel_rfl) (by kernel_rfl) (by kernel_rfl) (fun _ _ _ h => h) (Or.inl ⟨by rfl, ?hy⟩) (by assumption) ?_
    case hy => (intro w hSw; (try dsimp only at hSw); go_simp; try (with_reducible rfl))
    (try simp only [List.getElem_toArray, List.getElem_cons_succ, List.getElem_cons_zero, Act.put, List.setIfInBounds_toArray, List.set_cons_zero, List.set_cons_succ])
    refine wpAnyH_take (i := 3) (v := ?_) rfl (by kernel_rfl) (by kernel_rfl) (by kernel_rfl) (fun _ _ _ h => h) (Or.inl ⟨by rfl, ?hy⟩) (by assumption) ?_
    case hy => (intro w hSw; (try dsimp only at hSw); go_simp; try (with_reducible rfl))
    (try simp only [List.getElem_toArray, List.getElem_cons_succ, List.getElem_cons_zero, Act.put, List.setIfInBounds_toArray, List.set_cons_zero, List.set_cons_succ])
    refine wpAnyH_take (i := 4) (v := ?_) rfl (by kernel_rfl) (by kernel_rfl) (by kernel_rfl) (fun _ _ _ h => h) (Or.inl ⟨by rfl, ?hy⟩) (by assumption) ?_
    case hy => (intro w hSw; (try dsimp only at hSw); go_simp; try (with_reducible rfl))
    (try simp only [List.getElem_toArray, List.getElem_cons_succ, List.getElem_cons_zero, Act.put, List.setIfInBounds_toArray, List.set_cons_zero, List.set_cons_succ])
    refine wpAnyH_take (i := 5) (v := ?_) rfl (by kernel_rfl) (by kernel_rfl) (by kernel_rfl) (fun _ _ _ h => h) (Or.inl ⟨by rfl, ?hy⟩) (by assumption) ?_
    case hy => (intro w hSw; (try dsimp only at hSw); go_simp; try (with_reducible rfl))
    (try simp only [List.getElem_toArray, List.getElem_cons_succ, List.getElem_cons_zero, Act.put, List.setIfInBounds_toArray, List.set_cons_zero, List.set_cons_succ])
    refine wpAnyH_ready (rs := [2]) (by kernel_rfl) (by simp) ?_
    refine AllReadyH.cons rfl (fun KK hKK => ?_) AllReadyH.nil
    go_simp
    (go_at_call 58; ((with_reducible refine ct.mono ?_); rintro e w6 ⟨rfl, hb6⟩; clear ct; have B6 := bel_trans B2d hb6))
    refine hKK.out _ _ (by exact HS.out _ B6) (fun hHeld => ?_)
    clear hKK KK
    (try simp only [List.getElem_toArray, List.getElem_cons_succ, List.getElem_cons_zero, Act.put, List.setIfInBounds_toArray, List.set_cons_zero, List.set_cons_succ])
    refine wpAnyH_take (i := 6) (v := ?_) rfl (by kernel_rfl) (by kernel_rfl) (by kernel_rfl) (fun _ _ _ h => h) (Or.inl ⟨by rfl, ?hy⟩) (by assumption) ?_
    case hy => (intro w hSw; (try dsimp only at hSw); go_simp; try (with_reducible rfl))
    (try simp only [List.getElem_toArray, List.getElem_cons_succ, List.getElem_cons_zero, Act.put, List.setIfInBounds_toArray, List.set_cons_zero, List.set_cons_succ])
    refine wpAnyH_take (i := 7) (v := undef) rfl (by kernel_rfl) (by kernel_rfl) (by kernel_rfl) (fun _ _ _ h => h) (Or.inr ⟨by rfl, rfl⟩) (by assumption) ?_
    (try simp only [List.getElem_toArray, List.getElem_cons_succ, List.getElem_cons_zero, Act.put, List.setIfInBounds_toArray, List.set_cons_zero, List.set_cons_succ])
    refine wpAnyH_take (i := 8) (v := undef) rfl (by kernel_rfl) (by kernel_rfl) (by kernel_rfl) (fun _ _ _ h => h) (Or.inr ⟨by rfl, rfl⟩) (by assumption) ?_
    (try simp only [List.getElem_toArray, List.getElem_cons_succ, List.getElem_cons_zero, Act.put, List.setIfInBounds_toArray, List.set_cons_zero, List.set_cons_succ])
    refine wpAnyH_take (i := 9) (v := ?_) rfl (by kernel_rfl) (by kernel_rfl) (by kernel_rfl) (fun _ _ _ h => h) (Or.inl ⟨by rfl, ?hy⟩) (by assumption) ?_
    case hy => (intro w hSw; (try dsimp only at hSw); go_simp; try (with_reducible rfl))
    (try simp only [List.getElem_toArray, List.getElem_cons_succ, List.getElem_cons_zero, Act.put, List.setIfInBounds_toArray, List.set_cons_zero, List.set_cons_succ])
    refine wpAnyH_ready (rs := [10]) (by kernel_rfl) (by simp) ?_
    refine AllReadyH.cons rfl (fun KK hKK => ?_) AllReadyH.nil
    go_simp
    (go_at_call 57; ((with_reducible refine (cP false _).mono ?_); rintro e w7 ⟨rfl, hb7⟩; have B7 := bel_trans B6 hb7))
    refine hKK.out _ _ (by exact HS.out _ B7) (fun hHeld => ?_)
    clear hKK KK
    (try simp only [List.getElem_toArray, List.getElem_cons_succ, List.getElem_cons_zero, Act.put, List.setIfInBounds_toArray, List.set_cons_zero, List.set_cons_succ])
    refine wpAnyH_take (i := 11) (v := ?_) rfl (by kernel_rfl) (by kernel_rfl) (by kernel_rfl) (fun _ _ _ h => h) (Or.inl ⟨by rfl, ?hy⟩) (by assumption) ?_
    case hy => (intro w hSw; (try dsimp only at hSw); go_simp; try (with_reducible rfl))
    (try simp only [List.getElem_toArray, List.getElem_cons_succ, List.getElem_cons_zero, Act.put, List.setIfInBounds_toArray, List.set_cons_zero, List.set_cons_succ])
    refine wpAnyH_done (by kernel_rfl) ?_ _
    refine NoPanic.normal ?_
    all_goals go_wp2
    all_goals go_ret
    exact ⟨rfl, bel_trans HB.out B7⟩

set_option maxHeartbeats 4000000 in
theorem term_neg {W : World} (E : Env W) {bs : List ByteArray} (s : ByteArray) (nu : Int) (x : Tm) (hx : TermOk W bs x) (hsx : (tX bs x).size ≤ 1000000000) (hn : opT x = 4 → -9223372036854775808 ≤ numT x ∧ numT x ≤ 9223372036854775807)
    (z : Sv) (fr : List ByteArray) (m : Int) (a : Option Addr) (n c : Nat) (w : World) (hw : Below W.heap.size W w) (hz : z.ok w fr bs) (hA : TsW w a n c [x]) :
    Calls Tryz.prog 33 #[z.val, .agg #[.int .i64 7, .string s, .int .i64 nu, .slice a n c], .int .i64 m] w fun e w' => e = .returned (.string (⟨#[45]⟩ ++ par (needN x) (tX bs x))) ∧ Below w.heap.size w w' := by
  obtain ⟨W1, hW1, hB1, hs1, S1, T1⟩ := sbox2 w z.a z.n z.c z.b z.m z.d 7 s nu a n c
  obtain ⟨W2, hW2, hB2, hs2, p0, p1, i0, i1, f0, f1⟩ := obox2 W1 ⟨#[45]⟩ 0
  have hB12 : Below w.heap.size w W2 := bel_trans hB1 hB2
  obtain ⟨g0, g1⟩ : W1.cell? ⟨0, 14, none⟩ = some (.string ⟨#[45]⟩) ∧ W1.cell? ⟨0, 15, none⟩ = some (.int .i64 0) := E.top W1 (hw.trans (hB1.mono hw.size)) 7 (by decide)
  obtain ⟨s0, s1⟩ := (S1.bl hB2).two
  obtain ⟨t0, t1, t2, t3⟩ := (TBox.b T1 hB2).four
  obtain ⟨u0, u1, u2, u3⟩ := T1.four
  obtain ⟨bb, oo, a', n', c', rfl, rfl, hbb, y0, y1, y2, y3, hAx⟩ := args1 (TsW.b hA hB12)
  rw [hs1] at p0 p1 i0 i1 f0 f1
  have B2d : Below W2.heap.size W2 W2.drew := (Below.refl _ _).drew
  have cn := negated_any E x hx hsx hn z fr a' n' c' W2.drew ((hw.trans (hB12.mono hw.size)).trans (B2d.mono (Nat.le_trans hw.size hB12.size))) (hz.bl (bel_trans hB12 B2d)) (ArW.b hAx B2d)
  have hps := par_size (needN x) (tX bs x)
  have r1 : ∀ w, (Op.stringOp .add ⟨#[45]⟩ (par (needN x) (tX bs x))).run Tryz.prog w = .ok (.string (⟨#[45]⟩ ++ par (needN x) (tX bs x))) w := fun w => by rw [run_string_add_sum w _ _ (by have : (⟨#[45]⟩ : ByteArray).size = 1 := rfl; omega)]
  have l1 : w.heap.size < W2.heap.size := by omega
  have l2 : w.heap.size + 1 < W2.heap.size := by omega
  have l3 : w.heap.size + 2 < W2.heap.size := by omega
  have HB := Lib.hid hB12
  unfold Sv.val at cn ⊢
  clear S1 T1 E hw hz hA hB1 hB2 hps hx hn hsx hAx hB12
  generalize (⟨#[45]⟩ ++ par (needN x) (tX bs x)) = R at *
  generalize par (needN x) (tX bs x) = X at *
  generalize opT x = xo at *
  generalize nameT x = xs at *
  generalize numT x = xz at *
  obtain ⟨za, zn, zc, zb, zm, zd⟩ := z
  dsimp only at *
  have HS := Lib.hid (show ∀ w', Below W2.heap.size W2 w' → (w'.cell? ⟨w.heap.size, 0, none⟩ = some (.slice za zn zc) ∧ w'.cell? ⟨w.heap.size, 1, none⟩ = some (.slice zb zm zd) ∧ w'.cell? ⟨w.heap.size + 1, 3, none⟩ = some (.slice (some ⟨bb, oo, none⟩) 1 c) ∧ w'.cell? ⟨w.heap.size + 2, 0, none⟩ = some (.string ⟨#[45]⟩) ∧ w'.cell? ⟨bb, oo, none⟩ = some (.int .i64 xo) ∧ w'.cell? ⟨bb, oo + 1, none⟩ = some (.string xs) ∧ w'.cell? ⟨bb, oo + 1 + 1, none⟩ = some (.int .i64 xz) ∧ w'.cell? ⟨bb, oo + 1 + 1 + 1, none⟩ = some (.slice a' n' c')) from fun w' h =>
    ⟨(h.cell (p := ⟨w.heap.size, 0, none⟩) l1).trans s0, (h.cell (p := ⟨w.heap.size, 1, none⟩) l1).trans s1, (h.cell (p := ⟨w.heap.size + 1, 3, none⟩) l2).trans t3, (h.cell (p := ⟨w.heap.size + 2, 0, none⟩) l3).trans p0,
      (h.cell (p := ⟨bb, _, none⟩) hbb).trans y0, (h.cell (p := ⟨bb, _, none⟩) hbb).trans y1, (h.cell (p := ⟨bb, _, none⟩) hbb).trans y2, (h.cell (p := ⟨bb, _, none⟩) hbb).trans y3⟩)
  go_enter Tryz.func33, Tryz.ntmps33
  go_wp2
  go_region_held3 (fun w' => w'.cell? ⟨w.heap.size, 0, none⟩ = some (.slice za zn zc) ∧ w'.cell? ⟨w.heap.size, 1, none⟩ = some (.slice zb zm zd) ∧ w'.cell? ⟨w.heap.size + 1, 3, none⟩ = some (.slice (some ⟨bb, oo, none⟩) 1 c) ∧ w'.cell? ⟨w.heap.size + 2, 0, none⟩ = some (.string ⟨#[45]⟩) ∧ w'.cell? ⟨bb, oo, none⟩ = some (.int .i64 xo) ∧ w'.cell? ⟨bb, oo + 1, none⟩ = some (.string xs) ∧ w'.cell? ⟨bb, oo + 1 + 1, none⟩ = some (.int .i64 xz) ∧ w'.cell? ⟨bb, oo + 1 + 1 + 1, none⟩ = some (.slice a' n' c'))
    (first | exact HS.out _ B6 | exact HS.out _ B2d | go_keep)
    (first | (go_at_call 59; ((with_reducible refine cn.mono ?_); rintro e w6 ⟨rfl, hb6⟩; clear cn; have B6 := bel_trans B2d hb6)))
  go_wp2
  go_ret
  exact ⟨rfl, bel_trans HB.out B6⟩

set_option maxHeartbeats 8000000 in
theorem term_mul {W : World} (E : Env W) {bs : List ByteArray} (s : ByteArray) (nu : Int) (h0 : -9223372036854775808 ≤ nu) (h1 : nu ≤ 9223372036854775807) (x : Tm) (hx : TermOk W bs x) (hsx : (tP bs 0 x).size ≤ 1000000000) (b b2 : Bool)
    (z : Sv) (fr : List ByteArray) (m : Int) (a : Option Addr) (n c : Nat) (w : World) (hw : Below W.heap.size W w) (hz : z.ok w fr bs) (hA : TsW w a n c [x]) (hb : decide ((1 : Int) > m) = b) (hb2 : decide (nu < 0) = b2) :
    Calls Tryz.prog 33 #[z.val, .agg #[.int .i64 8, .string s, .int .i64 nu, .slice a n c], .int .i64 m] w fun e w' => e = .returned (.string (par b (par b2 (dig nu) ++ (⟨#[32, 42, 32]⟩ ++ tP bs 0 x)))) ∧ Below w.heap.size w w' := by
  obtain ⟨W1, hW1, hB1, hs1, S1, T1⟩ := sbox2 w z.a z.n z.c z.b z.m z.d 8 s nu a n c
  obtain ⟨W2, hW2, hB2, hs2, p0, p1, i0, i1, f0, f1⟩ := obox2 W1 ⟨#[42]⟩ 1
  have hB12 : Below w.heap.size w W2 := bel_trans hB1 hB2
  obtain ⟨g0, g1⟩ : W1.cell? ⟨0, 16, none⟩ = some (.string ⟨#[42]⟩) ∧ W1.cell? ⟨0, 17, none⟩ = some (.int .i64 1) := E.top W1 (hw.trans (hB1.mono hw.size)) 8 (by decide)
  obtain ⟨s0, s1⟩ := (S1.bl hB2).two
  obtain ⟨t0, t1, t2, t3⟩ := (TBox.b T1 hB2).four
  obtain ⟨u0, u1, u2, u3⟩ := T1.four
  obtain ⟨bb, oo, a', n', c', rfl, rfl, hbb, y0, y1, y2, y3, hAx⟩ := args1 (TsW.b hA hB12)
  rw [hs1] at p0 p1 i0 i1 f0 f1
  have B2d : Below W2.heap.size W2 W2.drew := (Below.refl _ _).drew
  have hWW2 : Below W.heap.size W W2 := hw.trans (hB12.mono hw.size)
  have ct := E.text nu h0 h1 W2.drew (hWW2.trans (B2d.mono hWW2.size))
  have cx := fun (w' : World) (h : Below W2.heap.size W2 w') => hx z fr 0 a' n' c' w' (hWW2.trans (h.mono hWW2.size)) (hz.bl (bel_trans hB12 h)) (ArW.b hAx h) (by omega) (by omega)
  have hd := dig_size h0 h1
  have cD := fun w => par_any (dig nu) b2 (by omega) w
  have hps := par_size b2 (dig nu)
  have cP := fun w => par_any (par b2 (dig nu) ++ (⟨#[32, 42, 32]⟩ ++ tP bs 0 x)) b (by
    rw [ByteArray.size_append, ByteArray.size_append]
    have : (⟨#[32, 42, 32]⟩ : ByteArray).size = 3 := rfl
    omega) w
  have hsp : (⟨#[32]⟩ : ByteArray).size = 1 := rfl
  have hsg : (⟨#[42]⟩ : ByteArray).size = 1 := rfl
  obtain ⟨X1, e1⟩ : ∃ v, par b2 (dig nu) ++ (⟨#[32]⟩ : ByteArray) = v := ⟨_, rfl⟩
  obtain ⟨X2, e2⟩ : ∃ v, X1 ++ (⟨#[42]⟩ : ByteArray) = v := ⟨_, rfl⟩
  obtain ⟨X3, e3⟩ : ∃ v, X2 ++ (⟨#[32]⟩ : ByteArray) = v := ⟨_, rfl⟩
  have e4 : X3 ++ tP bs 0 x = par b2 (dig nu) ++ (⟨#[32, 42, 32]⟩ ++ tP bs 0 x) := by
    rw [← e3, ← e2, ← e1]; simp only [ByteArray.append_assoc]
    rw [show (⟨#[32, 42, 32]⟩ : ByteArray) = ⟨#[32]⟩ ++ (⟨#[42]⟩ ++ ⟨#[32]⟩) from rfl]
    simp only [ByteArray.append_assoc]
  have z1 : X1.size ≤ 101 := by rw [← e1, ByteArray.size_append, hsp]; omega
  have z2 : X2.size ≤ 102 := by rw [← e2, ByteArray.size_append, hsg]; omega
  have z3 : X3.size ≤ 103 := by rw [← e3, ByteArray.size_append, hsp]; omega
  have r1 : ∀ w, (Op.stringOp .add (par b2 (dig nu)) ⟨#[32]⟩).run Tryz.prog w = .ok (.string X1) w := fun w => by rw [run_string_add_sum w _ _ (by omega), e1]
  have r2 : ∀ w, (Op.stringOp .add X1 ⟨#[42]⟩).run Tryz.prog w = .ok (.string X2) w := fun w => by rw [run_string_add_sum w _ _ (by omega), e2]
  have r3 : ∀ w, (Op.stringOp .add X2 ⟨#[32]⟩).run Tryz.prog w = .ok (.string X3) w := fun w => by rw [run_string_add_sum w _ _ (by omega), e3]
  have r4 : ∀ w, (Op.stringOp .add X3 (tP bs 0 x)).run Tryz.prog w = .ok (.string (par b2 (dig nu) ++ (⟨#[32, 42, 32]⟩ ++ tP bs 0 x))) w := fun w => by rw [run_string_add_sum w _ _ (by omega), e4]
  have l1 : w.heap.size < W2.heap.size := by omega
  have l2 : w.heap.size + 1 < W2.heap.size := by omega
  have l3 : w.heap.size + 2 < W2.heap.size := by omega
  have HB := Lib.hid hB12
  unfold Sv.val at cx ⊢
  clear S1 T1 E hw hz hA hB1 hB2 hps hx hsx hAx hB12 e1 e2 e3 e4 z1 z2 z3 hsp hsg hd hWW2
  generalize (par b2 (dig nu) ++ (⟨#[32, 42, 32]⟩ ++ tP bs 0 x)) = R at *
  generalize par b2 (dig nu) = D2 at *
  generalize dig nu = D at *
  generalize tP bs 0 x = X at *
  generalize opT x = xo at *
  generalize nameT x = xs at *
  generalize numT x = xz at *
  obtain ⟨za, zn, zc, zb, zm, zd⟩ := z
  dsimp only at *
  have HS := Lib.hid (show ∀ w', Below W2.heap.size W2 w' → (w'.cell? ⟨w.heap.size, 0, none⟩ = some (.slice za zn zc) ∧ w'.cell? ⟨w.heap.size, 1, none⟩ = some (.slice zb zm zd) ∧ w'.cell? ⟨w.heap.size + 1, 2, none⟩ = some (.int .i64 nu) ∧ w'.cell? ⟨w.heap.size + 1, 3, none⟩ = some (.slice (some ⟨bb, oo, none⟩) 1 c) ∧ w'.cell? ⟨w.heap.size + 2, 0, none⟩ = some (.string ⟨#[42]⟩) ∧ w'.cell? ⟨w.heap.size + 2, 1, none⟩ = some (.int .i64 1) ∧ w'.cell? ⟨bb, oo, none⟩ = some (.int .i64 xo) ∧ w'.cell? ⟨bb, oo + 1, none⟩ = some (.string xs) ∧ w'.cell? ⟨bb, oo + 1 + 1, none⟩ = some (.int .i64 xz) ∧ w'.cell? ⟨bb, oo + 1 + 1 + 1, none⟩ = some (.slice a' n' c')) from fun w' h =>
    ⟨(h.cell (p := ⟨w.heap.size, 0, none⟩) l1).trans s0, (h.cell (p := ⟨w.heap.size, 1, none⟩) l1).trans s1, (h.cell (p := ⟨w.heap.size + 1, 2, none⟩) l2).trans t2, (h.cell (p := ⟨w.heap.size + 1, 3, none⟩) l2).trans t3, (h.cell (p := ⟨w.heap.size + 2, 0, none⟩) l3).trans p0, (h.cell (p := ⟨w.heap.size + 2, 1, none⟩) l3).trans p1,
      (h.cell (p := ⟨bb, _, none⟩) hbb).trans y0, (h.cell (p := ⟨bb, _, none⟩) hbb).trans y1, (h.cell (p := ⟨bb, _, none⟩) hbb).trans y2, (h.cell (p := ⟨bb, _, none⟩) hbb).trans y3⟩)
  go_enter Tryz.func33, Tryz.ntmps33
  go_wp2
  go_region_held3 (fun w' => w'.cell? ⟨w.heap.size, 0, none⟩ = some (.slice za zn zc) ∧ w'.cell? ⟨w.heap.size, 1, none⟩ = some (.slice zb zm zd) ∧ w'.cell? ⟨w.heap.size + 1, 2, none⟩ = some (.int .i64 nu) ∧ w'.cell? ⟨w.heap.size + 1, 3, none⟩ = some (.slice (some ⟨bb, oo, none⟩) 1 c) ∧ w'.cell? ⟨w.heap.size + 2, 0, none⟩ = some (.string ⟨#[42]⟩) ∧ w'.cell? ⟨w.heap.size + 2, 1, none⟩ = some (.int .i64 1) ∧ w'.cell? ⟨bb, oo, none⟩ = some (.int .i64 xo) ∧ w'.cell? ⟨bb, oo + 1, none⟩ = some (.string xs) ∧ w'.cell? ⟨bb, oo + 1 + 1, none⟩ = some (.int .i64 xz) ∧ w'.cell? ⟨bb, oo + 1 + 1 + 1, none⟩ = some (.slice a' n' c'))
    (first | exact HS.out _ B8 | exact HS.out _ B7 | exact HS.out _ B6 | exact HS.out _ B2d | go_keep)
    (first
      | (go_at_call 58; ((with_reducible refine ct.mono ?_); rintro e w6 ⟨rfl, hb6⟩; clear ct; have B6 := bel_trans B2d hb6))
      | (go_at_call 57; ((with_reducible refine (cD _).mono ?_); rintro e w7 ⟨rfl, hb7⟩; have B7 := bel_trans B6 hb7))
      | (go_at_call 33; ((with_reducible refine (cx _ B7).mono ?_); rintro e w8 ⟨rfl, hb8⟩; have B8 := bel_trans B7 hb8)))
  go_wp2_with (go_at_call 57; ((with_reducible refine (cP _).mono ?_); rintro e w9 ⟨rfl, hb9⟩))
  go_ret
  exact ⟨rfl, bel_trans (bel_trans HB.out B8) hb9⟩

theorem need_of {o : Int} {s : ByteArray} {z : Int} {l : List Tm} (m : Int) (h4 : o ≠ 4) : need (.mk o s z l) m = decide (m < loT o) := by
  unfold need minus
  show (decide (m < loT o) || (((o == 4) && _) && _)) = _
  rw [beq_no' h4, Bool.false_and, Bool.false_and, Bool.or_false]
theorem sizes_le {t : Tm} : ∀ {l : List Tm}, t ∈ l → size t ≤ sizes l
  | [], h => by cases h
  | x :: l, h => by
    rw [sizes]
    rcases List.mem_cons.1 h with rfl | h
    · omega
    · have := sizes_le h; omega
theorem tP_size {bs : List ByteArray} (hb : shB bs) {t : Tm} (h : okT t) (hs : size t ≤ 1000000) (m : Int) : (tP bs m t).size ≤ 1000000000 := by
  have h1 := tX_size hb t h
  have h2 := par_size (need t m) (tX bs t)
  unfold tP; omega
theorem term_any {W : World} (E : Env W) {bs : List ByteArray} (hb : shB bs) : ∀ t : Tm, okT t → size t ≤ 1000000 → TermOk W bs t := by
  intro t
  refine Tm.ind (P := fun t => okT t → size t ≤ 1000000 → TermOk W bs t) ?_ t
  intro t ih hk hs z fr m a n c w hw hz hA m0 m5
  obtain ⟨o, s, nu, l⟩ := t
  have hk2 := hk
  rw [okT] at hk
  obtain ⟨ha, hsz, hnu, hl⟩ := hk
  have hT : TsW w a n c l := ArW.args hA
  have hsl : sizes l ≤ 999999 := by rw [size] at hs; omega
  have ih' : ∀ x ∈ l, TermOk W bs x := fun x hx => ih x hx (okTs_mem hl hx) (by have := sizes_le hx; omega)
  have htt := tXs_size hb l hl
  show Calls _ _ #[z.val, .agg #[.int .i64 o, .string s, .int .i64 nu, .slice a n c], .int .i64 m] w _
  rcases ha with ⟨rfl, hn⟩ | ⟨rfl, h0, hn⟩ | rfl | ⟨rfl, hn⟩ | ⟨rfl, hn⟩ | ⟨rfl, hn⟩ | ⟨rfl, hn⟩ | ⟨rfl, hn⟩
  · have hr : tP bs m (.mk 1 s nu l) = apX s (tXs bs l) := by
      unfold tP; rw [need_of m (by decide), tX_app _ _ _ _ _ (Or.inl rfl), show decide (m < loT 1) = false from decide_eq_false (by show ¬ m < 0; omega)]; rfl
    rw [hr]
    exact term_apply E 1 (Or.inl rfl) l ih' s nu hsz (by omega) z fr m a n c w hw hz hT (by have := hT.1; omega)
  · have hr : tP bs m (.mk 2 s nu l) = bnd bs nu := by
      unfold tP; rw [need_of m (by decide), tX_bound, show decide (m < loT 2) = false from decide_eq_false (by show ¬ m < 0; omega)]; rfl
    rw [hr]
    exact term_bound E hb.1 s nu h0 hnu.2 z fr m a n c w hw hz
  · have hr : tP bs m (.mk 3 s nu l) = apX s (tXs bs l) := by
      unfold tP; rw [need_of m (by decide), tX_app _ _ _ _ _ (Or.inr rfl), show decide (m < loT 3) = false from decide_eq_false (by show ¬ m < 0; omega)]; rfl
    rw [hr]
    have hll : ∀ l : List Tm, l.length ≤ sizes l := fun l => by
      induction l with
      | nil => exact Nat.le_refl _
      | cons t l ih => rw [List.length_cons, sizes]; have := size_pos t; omega
    exact term_apply E 3 (Or.inr rfl) l ih' s nu hsz (by omega) z fr m a n c w hw hz hT (by have := hT.1; have := hll l; omega)
  · have hr : tP bs m (.mk 4 s nu l) = par (decide (nu < 0) && decide (m < 5)) (dig nu) := by
      unfold tP; rw [tX_num]
      have : need (.mk 4 s nu l) m = (decide (nu < 0) && decide (m < 5)) := by
        unfold need minus
        show (decide (m < 0) || (((4 : Int) == 4) && decide (nu < 0)) && decide (m < 5)) = _
        rw [show decide (m < 0) = false from decide_eq_false (by omega)]
        simp
      rw [this]
    rw [hr]
    exact term_num E s nu hnu.1 hnu.2 z m a n c w hw
  · match l, hn with
    | [x, y], _ =>
      rw [okTs, okTs] at hl
      rw [sizes, sizes, sizes] at hsl
      have hr : tP bs m (.mk 5 s nu [x, y]) = par (decide ((2 : Int) > m)) (tP bs 2 x ++ ((⟨#[32]⟩ ++ ⟨#[43]⟩ ++ ⟨#[32]⟩) ++ tP bs 1 y)) := by
        conv => lhs; unfold tP
        rw [need_of m (by decide), tX_add]; rfl
      rw [hr]
      exact term_add E 5 ⟨#[43]⟩ (Or.inl ⟨rfl, rfl⟩) s nu x y (ih' x (by simp)) (ih' y (by simp)) (tP_size hb hl.1 (by omega) _) (tP_size hb hl.2.1 (by omega) _) _ z fr m a n c w hw hz hT m0 m5 rfl
  · match l, hn with
    | [x, y], _ =>
      rw [okTs, okTs] at hl
      rw [sizes, sizes, sizes] at hsl
      have hr : tP bs m (.mk 6 s nu [x, y]) = par (decide ((2 : Int) > m)) (tP bs 2 x ++ ((⟨#[32]⟩ ++ ⟨#[45]⟩ ++ ⟨#[32]⟩) ++ tP bs 1 y)) := by
        conv => lhs; unfold tP
        rw [need_of m (by decide), tX_sub]; rfl
      rw [hr]
      exact term_add E 6 ⟨#[45]⟩ (Or.inr ⟨rfl, rfl⟩) s nu x y (ih' x (by simp)) (ih' y (by simp)) (tP_size hb hl.1 (by omega) _) (tP_size hb hl.2.1 (by omega) _) _ z fr m a n c w hw hz hT m0 m5 rfl
  · match l, hn with
    | [x], _ =>
      rw [okTs] at hl
      rw [sizes, sizes] at hsl
      have hr : tP bs m (.mk 7 s nu [x]) = ⟨#[45]⟩ ++ par (needN x) (tX bs x) := by
        conv => lhs; unfold tP
        rw [need_of m (by decide), tX_neg, show decide (m < loT 7) = false from decide_eq_false (by show ¬ m < 0; omega)]; rfl
      rw [hr]
      have h1 := tX_size hb x hl.1
      exact term_neg E s nu x (ih' x (by simp)) (by omega) (fun _ => (okT_mk hl.1).2.2.1) z fr m a n c w hw hz hT
  · match l, hn with
    | [x], _ =>
      rw [okTs] at hl
      rw [sizes, sizes] at hsl
      have hr : tP bs m (.mk 8 s nu [x]) = par (decide ((1 : Int) > m)) (par (decide (nu < 0)) (dig nu) ++ (⟨#[32, 42, 32]⟩ ++ tP bs 0 x)) := by
        conv => lhs; unfold tP
        rw [need_of m (by decide), tX_mul]; rfl
      rw [hr]
      exact term_mul E s nu hnu.1 hnu.2 x (ih' x (by simp)) (tP_size hb hl.1 (by omega) _) _ _ z fr m a n c w hw hz hT rfl rfl
end Go.Proofs.YtcigeclnbhcohaaGreatDoor.Sh
