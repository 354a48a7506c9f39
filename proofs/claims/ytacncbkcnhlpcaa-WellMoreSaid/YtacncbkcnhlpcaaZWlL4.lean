/-
  What is proved: the law that further variables change nothing of what is well sorted, and that a way leads to a part.
-/
import Derived.Test.YtacncbkcnhlpcaaZWlCm
import Derived.Test.YtacncbkcnhlpcaaZWlLe
import Derived.Test.YtacncbkcnhlpcaaZWlV2
import Derived.Test.YtacncbkcnhlpcaaZWlL1
import Derived.Test.YtacncbkcnhlpcaaZClmWt
import Derived.Test.YtacncbkcnhlpcaaZClmO
import Derived.Deep.RegionHeld3
import Derived.Deep.Cut
import Derived.Deep.CutRange
namespace Go.Proofs.Ytacncbkcnhlpcaa.Wl
open Go.RowKit L T C
open Sgn (SlG Fm Core cores)
set_option linter.unusedVariables false
set_option linter.unusedSimpArgs false
set_option maxRecDepth 100000

theorem own_at {g k : Nat} (h : (Value.slice (some ⟨g, 0, none⟩) 0 0).ownBlock = some k) : g = k := by
  first | exact Option.some.inj h | simpa [Value.ownBlock] using h
theorem leadsT_len : ∀ {r : List Int} {t : Tm}, leadsT r t = true → r.length < size t
  | [], t, _ => by cases t; rw [size]; simp; omega
  | n :: r, t, h => by
    rw [leadsT] at h
    split at h
    · cases h
    · cases hx : (argsT t)[n.toNat]? with
      | none => rw [hx] at h; cases h
      | some x =>
        rw [hx] at h
        have h1 := leadsT_len h
        have h2 := size_arg (List.mem_of_getElem? hx)
        simp; omega
theorem leadsC_len : ∀ {r : List Int} {c : Cl}, leadsC r c = true → r.length < wt c
  | [], c, _ => by rw [wt_mk]; simp; omega
  | n :: r, c, h => by
    rw [leadsC] at h
    split at h
    · cases h
    · split at h
      · cases hx : (tsC c)[n.toNat]? with
        | none => rw [hx] at h; cases h
        | some x =>
          rw [hx] at h
          have h1 := leadsT_len h
          have h2 := sizes_mem (List.mem_of_getElem? hx)
          rw [wt_mk]
          simp; omega
      · cases hx : (subC c)[n.toNat - (tsC c).length]? with
        | none => rw [hx] at h; cases h
        | some x =>
          rw [hx] at h
          have h1 := leadsC_len h
          have h2 := wts_mem (List.mem_of_getElem? hx)
          rw [wt_mk]
          simp; omega
theorem cin_more {S : List ByteArray} {K : List Core} {V M : List Vr} {c : Cl} (h : (cinW S K V [] c).e = 0) : cinW S K (V ++ M) [] c = cinW S K V [] c := by
  unfold cinW at h ⊢
  split
  · rfl
  · rename_i hr
    rw [if_neg hr] at h
    exact wlC_more h
theorem cin_way {S : List ByteArray} {K : List Core} {V : List Vr} {c : Cl} (h : (cinW S K V [] c).e ≠ 0) : leadsC (cinW S K V [] c).way c = true := by
  unfold cinW at h ⊢
  split
  · rfl
  · rename_i hr
    rw [if_neg hr] at h
    exact wlC_way c [] h
set_option maxHeartbeats 32000000 in
theorem moreB (z : SgZ) (p : Option Addr) (q e : Nat) (V : List Vr) (p2 : Option Addr) (q2 e2 : Nat) (M : List Vr) (t : Cl) (ks : SS) (ta : Option Addr) (tn tc : Nat) (w : World) (hz : z.ok w) (hq : q ≤ 17592186044416) (hV : SlV w p q e V) (hM : SlV w p2 q2 e2 M) (hA : ArWC w t ks ta tn tc) :
    Calls Try.prog 7 #[z.val, .slice p q e, .slice p2 q2 e2, .agg #[.int .i64 (opC t), .string (nmC t), .string (soC t), .slice ks.a ks.n ks.c, .slice ta tn tc]] w fun e w' => e = .returned (.bool true) ∧ Below w.heap.size w w' := by
  obtain ⟨a, n, c, S, b, m, d, G⟩ := z
  obtain ⟨hS, hn, hG, hm, hK⟩ := hz
  dsimp only at hS hn hG hm hK
  unfold SgZ.val
  dsimp only
  obtain ⟨W, hW, hB, S1, T1⟩ := boxesCW w a n c b m d (opC t) (nmC t) (soC t) ks ta tn tc
  have cF := fun (w' : World) (h : Below W.heap.size W w') => Few_any a n c b m d G p q e w' hn ((hG.below hB).below h) hm hK hq
  have zC := fun (w' : World) (h : Below W.heap.size W w') => Big_any t ks ta tn tc 100 w' (by omega) (ArWC.b hA (bel_trans hB h))
  rw [show ((100 : Nat) : Int) = 100 from rfl] at zC
  have g0 := fun (w' : World) => goes_any w'
  have HS1 := Lib.hid S1
  have HT1 := Lib.hid T1
  have HB := Lib.hid hB
  have HC := Lib.hid (show fewZ n G q = true → wtTo 100 t ≤ 100 → (∀ w', Below W.heap.size W w' → Calls Try.prog 18 #[.agg #[.slice a n c, .slice b m d], .slice p q e, .agg #[.int .i64 (opC t), .string (nmC t), .string (soC t), .slice ks.a ks.n ks.c, .slice ta tn tc]] w' (ClP (cinW S (cores G) V [] t) [] w')) ∧
      (∀ A N C w', Below W.heap.size W w' → SlV w' A N C (V ++ M) → N ≤ 1000000 → Calls Try.prog 18 #[.agg #[.slice a n c, .slice b m d], .slice A N C, .agg #[.int .i64 (opC t), .string (nmC t), .string (soC t), .slice ks.a ks.n ks.c, .slice ta tn tc]] w' (ClP (cinW S (cores G) (V ++ M) [] t) [] w')) ∧ q ≤ 400 ∧
      (leadsC (cinW S (cores G) V [] t).way t = true → ∀ A N C w', Below W.heap.size W w' → SlI w' A N C (cinW S (cores G) V [] t).way → Calls Try.prog 22 #[.agg #[.int .i64 (opC t), .string (nmC t), .string (soC t), .slice ks.a ks.n ks.c, .slice ta tn tc], .slice A N C] w' fun e w1 => e = .returned (.bool true) ∧ Below w'.heap.size w' w1) from fun h hw => by
    obtain ⟨h1, h2, h3, h4, h5⟩ := few_of hG h
    have hwt := Nat.le_trans (wtTo_le t 100 hw) hw
    refine ⟨fun w' hb => Claim13_any a n c S b m d G p q e V t ks ta tn tc w' ((hS.1.below hB).below hb) (by omega) ((hG.below hB).below hb) (by omega) h5 ((hV.1.below hB).below hb) (by omega) (by omega) (ArWC.b hA (bel_trans hB hb)), fun A N C w' hb hv hN => Claim13_any a n c S b m d G A N C (V ++ M) t ks ta tn tc w' ((hS.1.below hB).below hb) (by omega) ((hG.below hB).below hb) (by omega) h5 hv.1 hN (by omega) (ArWC.b hA (bel_trans hB hb)), h3, fun hl A N C w' hb hi => ?_⟩
    have h6 := leads_any _ t ks ta tn tc A N C w' hi (by rw [hi.1]; have := leadsC_len hl; omega) (ArWC.b hA (bel_trans hB hb)) (by omega)
    rw [hl] at h6
    exact h6)
  have hcm := fun (h : (cinW S (cores G) V [] t).e = 0) => cin_more (M := M) h
  have hcw := fun (h : (cinW S (cores G) V [] t).e ≠ 0) => cin_way h
  have hVb : ∀ w', Below W.heap.size W w' → SlV w' p q e V := fun w' h => (hV.below hB).below h
  have hMb : ∀ w', Below W.heap.size W w' → SlV w' p2 q2 e2 M := fun w' h => (hM.below hB).below h
  have hqV : q = V.length := hV.1.1
  generalize fewZ n G q = F at *
  generalize wtTo 100 t = wz at *
  generalize cinW S (cores G) V [] t = R1 at *
  generalize cinW S (cores G) (V ++ M) [] t = R2 at *
  have hBd : Below W.heap.size W W := Below.refl _ _
  obtain ⟨ka, kn, kc⟩ := ks
  dsimp only at *
  have HQ := Lib.hid (show ∀ w', Below W.heap.size W w' → (w'.cell? ⟨w.heap.size, 0, none⟩ = some (.slice a n c) ∧ w'.cell? ⟨w.heap.size, 1, none⟩ = some (.slice b m d) ∧ w'.cell? ⟨w.heap.size + 1, 0, none⟩ = some (.int .i64 (opC t)) ∧ w'.cell? ⟨w.heap.size + 1, 1, none⟩ = some (.string (nmC t)) ∧ w'.cell? ⟨w.heap.size + 1, 2, none⟩ = some (.string (soC t)) ∧ w'.cell? ⟨w.heap.size + 1, 3, none⟩ = some (.slice ka kn kc) ∧ w'.cell? ⟨w.heap.size + 1, 4, none⟩ = some (.slice ta tn tc)) from fun w' h => by
    obtain ⟨t0, t1, t2, t3, t4⟩ := (CBox.b HT1.out h).five
    obtain ⟨s0, s1⟩ := (HS1.out.b h).two
    exact ⟨s0, s1, t0, t1, t2, t3, t4⟩)
  have HVb := Lib.hid hVb
  have HMb := Lib.hid hMb
  have HqV := Lib.hid hqV
  have Hcm := Lib.hid hcm
  have Hcw := Lib.hid hcw
  clear hS hn hG hm hK hq hV hM hA hB S1 T1 hVb hMb hqV hcm hcw
  generalize opC t = op at *
  generalize nmC t = nm at *
  generalize soC t = so at *
  obtain ⟨s0, s1, c0, c1, c2, c3, c4⟩ := HQ.out _ hBd
  cases F with
  | false =>
    clear HC zC
    go_enter Try.func7, Try.ntmps7
    go_wp2_with (first
      | (go_at_call 8; ((with_reducible refine (cF _ (by first | assumption | exact Below.drew (by assumption) | exact Below.refl _ _ | exact (Below.refl _ _).drew)).mono ?_); rintro e wX ⟨rfl, hbX⟩; have Bz : Below W.heap.size W wX := bel_trans (by first | assumption | exact Below.drew (by assumption) | exact Below.refl _ _ | exact (Below.refl _ _).drew) hbX; obtain ⟨s0, s1, c0, c1, c2, c3, c4⟩ := HQ.out _ Bz))
      | (go_at_call 11; ((with_reducible refine (g0 _).mono ?_); rintro e wX ⟨rfl, hbX⟩; have Bz : Below W.heap.size W wX := bel_trans (by first | assumption | exact Below.drew (by assumption) | exact Below.refl _ _ | exact (Below.refl _ _).drew) hbX; obtain ⟨s0, s1, c0, c1, c2, c3, c4⟩ := HQ.out _ Bz)))
    go_ret
    exact ⟨rfl, bel_trans HB.out Bz⟩
  | true =>
    by_cases q1 : 100 < q2
    · have d1 : decide ((q2 : Int) > 100) = true := decide_eq_true (by omega)
      have d1' : (100 : Int) < (q2 : Int) := by omega
      clear HC zC
      go_enter Try.func7, Try.ntmps7
      go_wp2_with (first
        | (go_at_call 8; ((with_reducible refine (cF _ (by first | assumption | exact Below.drew (by assumption) | exact Below.refl _ _ | exact (Below.refl _ _).drew)).mono ?_); rintro e wX ⟨rfl, hbX⟩; have Bz : Below W.heap.size W wX := bel_trans (by first | assumption | exact Below.drew (by assumption) | exact Below.refl _ _ | exact (Below.refl _ _).drew) hbX; obtain ⟨s0, s1, c0, c1, c2, c3, c4⟩ := HQ.out _ Bz))
        | (go_at_call 11; ((with_reducible refine (g0 _).mono ?_); rintro e wX ⟨rfl, hbX⟩; have Bz : Below W.heap.size W wX := bel_trans (by first | assumption | exact Below.drew (by assumption) | exact Below.refl _ _ | exact (Below.refl _ _).drew) hbX; obtain ⟨s0, s1, c0, c1, c2, c3, c4⟩ := HQ.out _ Bz)))
      go_ret
      exact ⟨rfl, bel_trans HB.out Bz⟩
    · have d1 : decide ((q2 : Int) > 100) = false := decide_eq_false (by omega)
      have d1' : ¬ (100 : Int) < (q2 : Int) := by omega
      by_cases q3 : 100 < wz
      · have d2 : decide (100 < wz) = true := decide_eq_true q3
        rw [d2] at zC
        clear HC
        go_enter Try.func7, Try.ntmps7
        go_wp2_with (first
          | (go_at_call 8; ((with_reducible refine (cF _ (by first | assumption | exact Below.drew (by assumption) | exact Below.refl _ _ | exact (Below.refl _ _).drew)).mono ?_); rintro e wX ⟨rfl, hbX⟩; have Bz : Below W.heap.size W wX := bel_trans (by first | assumption | exact Below.drew (by assumption) | exact Below.refl _ _ | exact (Below.refl _ _).drew) hbX; obtain ⟨s0, s1, c0, c1, c2, c3, c4⟩ := HQ.out _ Bz))
          | (go_at_call 17; ((with_reducible refine (zC _ (by first | assumption | exact Below.drew (by assumption) | exact Below.refl _ _ | exact (Below.refl _ _).drew)).mono ?_); rintro e wX ⟨rfl, hbX⟩; have Bz : Below W.heap.size W wX := bel_trans (by first | assumption | exact Below.drew (by assumption) | exact Below.refl _ _ | exact (Below.refl _ _).drew) hbX; obtain ⟨s0, s1, c0, c1, c2, c3, c4⟩ := HQ.out _ Bz))
          | (go_at_call 11; ((with_reducible refine (g0 _).mono ?_); rintro e wX ⟨rfl, hbX⟩; have Bz : Below W.heap.size W wX := bel_trans (by first | assumption | exact Below.drew (by assumption) | exact Below.refl _ _ | exact (Below.refl _ _).drew) hbX; obtain ⟨s0, s1, c0, c1, c2, c3, c4⟩ := HQ.out _ Bz)))
        go_ret
        exact ⟨rfl, bel_trans HB.out Bz⟩
      · have d2 : decide (100 < wz) = false := decide_eq_false q3
        rw [d2] at zC
        obtain ⟨k1, k2, hq4, k3⟩ := HC.out rfl (by omega)
        clear HC
        obtain ⟨E1, Y1, Z1⟩ := R1
        obtain ⟨E2, Y2, Z2⟩ := R2
        unfold ClP at k1 k2
        dsimp only at *
        by_cases he : E1 = 0
        · subst he
          have hm2 := Hcm.out rfl
          injection hm2 with g1 g2 g3
          subst g1 g2 g3
          have K1 : ∀ w', Below W.heap.size W w' → Calls Try.prog 18 #[.agg #[.slice a n c, .slice b m d], .slice p q e, .agg #[.int .i64 op, .string nm, .string so, .slice ka kn kc, .slice ta tn tc]] w' fun e w1 => ∃ A C, e = .returned (.tuple #[.slice A 0 C, .int .i64 0]) ∧ Below w'.heap.size w' w1 := fun w' h => (k1 w' h).mono fun e w1 ⟨A, N, C, h1, h2, h3⟩ => by
            rw [if_pos rfl] at h2
            obtain rfl : N = 0 := h2.1
            exact ⟨A, C, h1, h3⟩
          have K2 : ∀ A N C w', Below W.heap.size W w' → SlV w' A N C (V ++ M) → N ≤ 1000000 → Calls Try.prog 18 #[.agg #[.slice a n c, .slice b m d], .slice A N C, .agg #[.int .i64 op, .string nm, .string so, .slice ka kn kc, .slice ta tn tc]] w' fun e w1 => ∃ A C, e = .returned (.tuple #[.slice A 0 C, .int .i64 0]) ∧ Below w'.heap.size w' w1 := fun A N C w' h hv hN => (k2 A N C w' h hv hN).mono fun e w1 ⟨A, N, C, h1, h2, h3⟩ => by
            rw [if_pos rfl] at h2
            obtain rfl : N = 0 := h2.1
            exact ⟨A, C, h1, h3⟩
          clear k1 k2 k3 Hcm Hcw
          go_enter Try.func7, Try.ntmps7
          go_upto_region 4 with (first
            | (go_at_call 8; ((with_reducible refine (cF _ (by first | assumption | exact Below.drew (by assumption) | exact Below.refl _ _ | exact (Below.refl _ _).drew)).mono ?_); rintro e wX ⟨rfl, hbX⟩; have Bz : Below W.heap.size W wX := bel_trans (by first | assumption | exact Below.drew (by assumption) | exact Below.refl _ _ | exact (Below.refl _ _).drew) hbX; obtain ⟨s0, s1, c0, c1, c2, c3, c4⟩ := HQ.out _ Bz))
            | (go_at_call 17; ((with_reducible refine (zC _ (by first | assumption | exact Below.drew (by assumption) | exact Below.refl _ _ | exact (Below.refl _ _).drew)).mono ?_); rintro e wX ⟨rfl, hbX⟩; have Bz : Below W.heap.size W wX := bel_trans (by first | assumption | exact Below.drew (by assumption) | exact Below.refl _ _ | exact (Below.refl _ _).drew) hbX; obtain ⟨s0, s1, c0, c1, c2, c3, c4⟩ := HQ.out _ Bz))
            | (go_at_call 18; ((with_reducible refine (K1 _ (by first | assumption | exact Below.drew (by assumption) | exact Below.refl _ _ | exact (Below.refl _ _).drew)).mono ?_); rintro e wX ⟨A7, C7, rfl, hbX⟩; have Bz : Below W.heap.size W wX := bel_trans (by first | assumption | exact Below.drew (by assumption) | exact Below.refl _ _ | exact (Below.refl _ _).drew) hbX; obtain ⟨s0, s1, c0, c1, c2, c3, c4⟩ := HQ.out _ Bz)))
          obtain ⟨W3, hW3⟩ : ∃ W3, wX = W3 := ⟨_, rfl⟩
          subst hW3
          have B3 := Lib.hid Bz
          have hle : wX.heap.size ≤ (wX.alloc (.cells #[] 64)).drew.heap.size := by simp
          have hB0 : Below W.heap.size W (wX.alloc (.cells #[] 64)).drew := (bel_alloc Bz _).drew
          have hO0 : OwnV (wX.alloc (.cells #[] 64)).drew wX.heap.size (.slice (some ⟨wX.heap.size, 0, none⟩) 0 0) [] := OwnV.empty wX
          go_cut [11, 12] from 35 to 44 (fun v11 v12 wc => (∃ A8 C8, v11 = .slice A8 0 C8 ∧ v12 = .int .i64 0) ∧ Below W.heap.size W wc)
          case first =>
            refine wp_region_noPanic ?_
            refine wp_region_held_drew (S := fun w' => w'.cell? ⟨w.heap.size, 0, none⟩ = some (.slice a n c) ∧ w'.cell? ⟨w.heap.size, 1, none⟩ = some (.slice b m d) ∧ w'.cell? ⟨w.heap.size + 1, 0, none⟩ = some (.int .i64 op) ∧ w'.cell? ⟨w.heap.size + 1, 1, none⟩ = some (.string nm) ∧ w'.cell? ⟨w.heap.size + 1, 2, none⟩ = some (.string so) ∧ w'.cell? ⟨w.heap.size + 1, 3, none⟩ = some (.slice ka kn kc) ∧ w'.cell? ⟨w.heap.size + 1, 4, none⟩ = some (.slice ta tn tc)) (by kernel_rfl) (by exact HQ.out _ (Below.drew Bz)) (fun hHeld => ?_)
            refine wpAnyH_take (i := 0) (v := ?_) rfl (by kernel_rfl) (by kernel_rfl) (by kernel_rfl) (fun _ _ _ h => h) (Or.inl ⟨by rfl, ?hy⟩) (by assumption) ?_
            case hy => (intro w hSw; (try dsimp only at hSw); go_simp; try (with_reducible rfl))
            (try simp only [List.getElem_toArray, List.getElem_cons_succ, List.getElem_cons_zero, Act.put, List.setIfInBounds_toArray, List.set_cons_zero, List.set_cons_succ])
            refine wpAnyH_take (i := 2) (v := ?_) rfl (by kernel_rfl) (by kernel_rfl) (by kernel_rfl) (fun _ _ _ h => h) (Or.inl ⟨by rfl, ?hy⟩) (by assumption) ?_
            case hy => (intro w hSw; (try dsimp only at hSw); go_simp; try (with_reducible rfl))
            (try simp only [List.getElem_toArray, List.getElem_cons_succ, List.getElem_cons_zero, Act.put, List.setIfInBounds_toArray, List.set_cons_zero, List.set_cons_succ])
            refine wpAnyH_take (i := 4) (v := ?_) rfl (by kernel_rfl) (by kernel_rfl) (by kernel_rfl) (fun _ _ _ h => h) (Or.inl ⟨by rfl, ?hy⟩) (by assumption) ?_
            case hy => (intro w hSw; (try dsimp only at hSw); go_simp; try (with_reducible rfl))
            (try simp only [List.getElem_toArray, List.getElem_cons_succ, List.getElem_cons_zero, Act.put, List.setIfInBounds_toArray, List.set_cons_zero, List.set_cons_succ])
            refine wpAnyH_take (i := 6) (v := ?_) rfl (by kernel_rfl) (by kernel_rfl) (by kernel_rfl) (fun _ _ _ h => h) (Or.inl ⟨by rfl, ?hy⟩) (by assumption) ?_
            case hy => (intro w hSw; (try dsimp only at hSw); go_simp; try (with_reducible rfl))
            (try simp only [List.getElem_toArray, List.getElem_cons_succ, List.getElem_cons_zero, Act.put, List.setIfInBounds_toArray, List.set_cons_zero, List.set_cons_succ])
            refine wpAnyH_ready (rs := [1]) (by kernel_rfl) (by simp) ?_
            refine AllReadyH.cons rfl (fun KK hKK => ?_) AllReadyH.nil
            go_simp
            skip
            refine hKK.out _ _ (by exact HQ.out _ hB0) (fun hHeld => ?_)
            clear hKK KK
            (try simp only [List.getElem_toArray, List.getElem_cons_succ, List.getElem_cons_zero, Act.put, List.setIfInBounds_toArray, List.set_cons_zero, List.set_cons_succ])
            refine wpAnyH_ready (rs := [3]) (by kernel_rfl) (by simp) ?_
            refine AllReadyH.cons rfl (fun KK hKK => ?_) AllReadyH.nil
            (refine step_app_vars rfl (.tmp 36) (.tmp 37) rfl wX.heap.size _ [] rfl hO0 p q e V rfl (HVb.out _ hB0) (by simp; omega) hle ?_; intro v1 w4 ho1 hg1; rw [List.nil_append] at ho1; have hB4 : Below W.heap.size W w4 := hB0.grown hg1 (by have := hB0.size; omega) (fun k hk => by have h1 := B3.out.size; have h2 := own_at hk; omega); have hle4 : wX.heap.size ≤ w4.heap.size := Nat.le_trans hle hg1.size)
            refine hKK.out _ _ (by exact HQ.out _ hB4) (fun hHeld => ?_)
            clear hKK KK
            (try simp only [List.getElem_toArray, List.getElem_cons_succ, List.getElem_cons_zero, Act.put, List.setIfInBounds_toArray, List.set_cons_zero, List.set_cons_succ])
            refine wpAnyH_ready (rs := [5]) (by kernel_rfl) (by simp) ?_
            refine AllReadyH.cons rfl (fun KK hKK => ?_) AllReadyH.nil
            (refine step_app_vars rfl (.tmp 38) (.tmp 39) rfl wX.heap.size v1 V rfl ho1 p2 q2 e2 M rfl (HMb.out _ hB4) (by rw [← HqV.out]; omega) hle4 ?_; intro v2 w5 ho2 hg2; have hB5 : Below W.heap.size W w5 := hB4.grown hg2 hB4.size (fun k hk => by have := ho1.lt k hk; have := B3.out.size; omega); have hB56 : Below wX.heap.size wX w5 := ((bel_trans (bel_alloc (Below.refl _ _) _) (Below.refl _ _).drew).grown hg1 hle (fun k hk => Nat.le_of_eq (own_at hk))).grown hg2 hle4 (fun k hk => ho1.lt k hk); obtain ⟨A6, C6, rfl, hS6⟩ := ho2.slV; have hN6 : (V ++ M).length = q + q2 := (by rw [List.length_append, ← HqV.out, (HMb.out _ hB4).1.1]); have hS7 : SlV w5 A6 (q + q2) C6 (V ++ M) := hN6 ▸ hS6)
            refine hKK.out _ _ (by exact HQ.out _ hB5) (fun hHeld => ?_)
            clear hKK KK
            (try simp only [List.getElem_toArray, List.getElem_cons_succ, List.getElem_cons_zero, Act.put, List.setIfInBounds_toArray, List.set_cons_zero, List.set_cons_succ])
            refine wpAnyH_ready (rs := [7]) (by kernel_rfl) (by simp) ?_
            refine AllReadyH.cons rfl (fun KK hKK => ?_) AllReadyH.nil
            go_simp
            (go_at_call 18; ((with_reducible refine (K2 A6 (q + q2) C6 _ (by first | assumption | exact Below.drew (by assumption) | exact Below.refl _ _ | exact (Below.refl _ _).drew) hS7 (by omega)).mono ?_); rintro e wX ⟨A8, C8, rfl, hbX⟩; have Bz : Below W.heap.size W wX := bel_trans (by first | assumption | exact Below.drew (by assumption) | exact Below.refl _ _ | exact (Below.refl _ _).drew) hbX; obtain ⟨s0, s1, c0, c1, c2, c3, c4⟩ := HQ.out _ Bz))
            refine hKK.out _ _ (by exact HQ.out _ Bz) (fun hHeld => ?_)
            clear hKK KK
            (try simp only [List.getElem_toArray, List.getElem_cons_succ, List.getElem_cons_zero, Act.put, List.setIfInBounds_toArray, List.set_cons_zero, List.set_cons_succ])
            refine wpAnyH_take (i := 8) (v := ?_) rfl (by kernel_rfl) (by kernel_rfl) (by kernel_rfl) (fun _ _ _ h => h) (Or.inl ⟨by rfl, ?hy⟩) (by assumption) ?_
            case hy => (intro w hSw; (try dsimp only at hSw); go_simp; try (with_reducible rfl))
            (try simp only [List.getElem_toArray, List.getElem_cons_succ, List.getElem_cons_zero, Act.put, List.setIfInBounds_toArray, List.set_cons_zero, List.set_cons_succ])
            refine wpAnyH_take (i := 9) (v := ?_) rfl (by kernel_rfl) (by kernel_rfl) (by kernel_rfl) (fun _ _ _ h => h) (Or.inl ⟨by rfl, ?hy⟩) (by assumption) ?_
            case hy => (intro w hSw; (try dsimp only at hSw); go_simp; try (with_reducible rfl))
            (try simp only [List.getElem_toArray, List.getElem_cons_succ, List.getElem_cons_zero, Act.put, List.setIfInBounds_toArray, List.set_cons_zero, List.set_cons_succ])
            refine wpAnyH_take (i := 10) (v := ?_) rfl (by kernel_rfl) (by kernel_rfl) (by kernel_rfl) (fun _ _ _ h => h) (Or.inl ⟨by rfl, ?hy⟩) (by assumption) ?_
            case hy => (intro w hSw; (try dsimp only at hSw); go_simp; try (with_reducible rfl))
            (try simp only [List.getElem_toArray, List.getElem_cons_succ, List.getElem_cons_zero, Act.put, List.setIfInBounds_toArray, List.set_cons_zero, List.set_cons_succ])
            refine wpAnyH_take (i := 11) (v := ?_) rfl (by kernel_rfl) (by kernel_rfl) (by kernel_rfl) (fun _ _ _ h => h) (Or.inl ⟨by rfl, ?hy⟩) (by assumption) ?_
            case hy => (intro w hSw; (try dsimp only at hSw); go_simp; try (with_reducible rfl))
            (try simp only [List.getElem_toArray, List.getElem_cons_succ, List.getElem_cons_zero, Act.put, List.setIfInBounds_toArray, List.set_cons_zero, List.set_cons_succ])
            refine wpAnyH_take (i := 12) (v := ?_) rfl (by kernel_rfl) (by kernel_rfl) (by kernel_rfl) (fun _ _ _ h => h) (Or.inl ⟨by rfl, ?hy⟩) (by assumption) ?_
            case hy => (intro w hSw; (try dsimp only at hSw); go_simp; try (with_reducible rfl))
            (try simp only [List.getElem_toArray, List.getElem_cons_succ, List.getElem_cons_zero, Act.put, List.setIfInBounds_toArray, List.set_cons_zero, List.set_cons_succ])
            refine wpAnyH_done (by kernel_rfl) ?_ _
            refine NoPanic.normal ?_
            all_goals (try go_wp2_with fail)
            go_meet
            exact ⟨⟨_, _, rfl, rfl⟩, Bz⟩
          case rest =>
            obtain ⟨⟨A8, C8, rfl, rfl⟩, Bz⟩ := hcut
            go_wp2_with (go_at_call 11; ((with_reducible refine (g0 _).mono ?_); rintro e wX ⟨rfl, hbX⟩; have Bz : Below W.heap.size W wX := bel_trans (by first | assumption | exact Below.drew (by assumption) | exact Below.refl _ _ | exact (Below.refl _ _).drew) hbX; obtain ⟨s0, s1, c0, c1, c2, c3, c4⟩ := HQ.out _ Bz))
            go_ret
            exact ⟨rfl, bel_trans HB.out Bz⟩
        · have K1 : ∀ w', Below W.heap.size W w' → Calls Try.prog 18 #[.agg #[.slice a n c, .slice b m d], .slice p q e, .agg #[.int .i64 op, .string nm, .string so, .slice ka kn kc, .slice ta tn tc]] w' fun e w1 => ∃ A N C, e = .returned (.tuple #[.slice A N C, .int .i64 E1]) ∧ SlI w1 A N C Y1 ∧ Below w'.heap.size w' w1 := fun w' h => (k1 w' h).mono fun e w1 ⟨A, N, C, h1, h2, h3⟩ => by
            rw [if_neg he] at h2
            exact ⟨A, N, C, h1, h2, h3⟩
          have K2 : ∀ A N C w', Below W.heap.size W w' → SlV w' A N C (V ++ M) → N ≤ 1000000 → Calls Try.prog 18 #[.agg #[.slice a n c, .slice b m d], .slice A N C, .agg #[.int .i64 op, .string nm, .string so, .slice ka kn kc, .slice ta tn tc]] w' fun e w1 => ∃ A N C, e = .returned (.tuple #[.slice A N C, .int .i64 E2]) ∧ Below w'.heap.size w' w1 := fun A N C w' h hv hN => (k2 A N C w' h hv hN).mono fun e w1 ⟨A, N, C, h1, h2, h3⟩ => ⟨A, N, C, h1, h3⟩
          have K3 := k3 (Hcw.out he)
          have e1 : (E1 == 0) = false := by simp [he]
          have e1' : (E1 = 0) = False := by simp [he]
          clear k1 k2 k3 Hcm Hcw
          go_enter Try.func7, Try.ntmps7
          go_upto_region 4 with (first
            | (go_at_call 8; ((with_reducible refine (cF _ (by first | assumption | exact Below.drew (by assumption) | exact Below.refl _ _ | exact (Below.refl _ _).drew)).mono ?_); rintro e wX ⟨rfl, hbX⟩; have Bz : Below W.heap.size W wX := bel_trans (by first | assumption | exact Below.drew (by assumption) | exact Below.refl _ _ | exact (Below.refl _ _).drew) hbX; obtain ⟨s0, s1, c0, c1, c2, c3, c4⟩ := HQ.out _ Bz))
            | (go_at_call 17; ((with_reducible refine (zC _ (by first | assumption | exact Below.drew (by assumption) | exact Below.refl _ _ | exact (Below.refl _ _).drew)).mono ?_); rintro e wX ⟨rfl, hbX⟩; have Bz : Below W.heap.size W wX := bel_trans (by first | assumption | exact Below.drew (by assumption) | exact Below.refl _ _ | exact (Below.refl _ _).drew) hbX; obtain ⟨s0, s1, c0, c1, c2, c3, c4⟩ := HQ.out _ Bz))
            | (go_at_call 18; ((with_reducible refine (K1 _ (by first | assumption | exact Below.drew (by assumption) | exact Below.refl _ _ | exact (Below.refl _ _).drew)).mono ?_); rintro e wX ⟨A7, N7, C7, rfl, hI7, hbX⟩; have Bz : Below W.heap.size W wX := bel_trans (by first | assumption | exact Below.drew (by assumption) | exact Below.refl _ _ | exact (Below.refl _ _).drew) hbX; obtain ⟨s0, s1, c0, c1, c2, c3, c4⟩ := HQ.out _ Bz; have HI7 := Lib.hid hI7; clear hI7)))
          obtain ⟨W3, hW3⟩ : ∃ W3, wX = W3 := ⟨_, rfl⟩
          subst hW3
          have B3 := Lib.hid Bz
          have hle : wX.heap.size ≤ (wX.alloc (.cells #[] 64)).drew.heap.size := by simp
          have hB0 : Below W.heap.size W (wX.alloc (.cells #[] 64)).drew := (bel_alloc Bz _).drew
          have hO0 : OwnV (wX.alloc (.cells #[] 64)).drew wX.heap.size (.slice (some ⟨wX.heap.size, 0, none⟩) 0 0) [] := OwnV.empty wX
          go_cut [11, 12] from 35 to 44 (fun v11 v12 wc => (∃ A8 N8 C8, v11 = .slice A8 N8 C8 ∧ v12 = .int .i64 E2) ∧ Hid (SlI wc A7 N7 C7 Y1) ∧ Below W.heap.size W wc)
          case first =>
            refine wp_region_noPanic ?_
            refine wp_region_held_drew (S := fun w' => w'.cell? ⟨w.heap.size, 0, none⟩ = some (.slice a n c) ∧ w'.cell? ⟨w.heap.size, 1, none⟩ = some (.slice b m d) ∧ w'.cell? ⟨w.heap.size + 1, 0, none⟩ = some (.int .i64 op) ∧ w'.cell? ⟨w.heap.size + 1, 1, none⟩ = some (.string nm) ∧ w'.cell? ⟨w.heap.size + 1, 2, none⟩ = some (.string so) ∧ w'.cell? ⟨w.heap.size + 1, 3, none⟩ = some (.slice ka kn kc) ∧ w'.cell? ⟨w.heap.size + 1, 4, none⟩ = some (.slice ta tn tc)) (by kernel_rfl) (by exact HQ.out _ (Below.drew Bz)) (fun hHeld => ?_)
            refine wpAnyH_take (i := 0) (v := ?_) rfl (by kernel_rfl) (by kernel_rfl) (by kernel_rfl) (fun _ _ _ h => h) (Or.inl ⟨by rfl, ?hy⟩) (by assumption) ?_
            case hy => (intro w hSw; (try dsimp only at hSw); go_simp; try (with_reducible rfl))
            (try simp only [List.getElem_toArray, List.getElem_cons_succ, List.getElem_cons_zero, Act.put, List.setIfInBounds_toArray, List.set_cons_zero, List.set_cons_succ])
            refine wpAnyH_take (i := 2) (v := ?_) rfl (by kernel_rfl) (by kernel_rfl) (by kernel_rfl) (fun _ _ _ h => h) (Or.inl ⟨by rfl, ?hy⟩) (by assumption) ?_
            case hy => (intro w hSw; (try dsimp only at hSw); go_simp; try (with_reducible rfl))
            (try simp only [List.getElem_toArray, List.getElem_cons_succ, List.getElem_cons_zero, Act.put, List.setIfInBounds_toArray, List.set_cons_zero, List.set_cons_succ])
            refine wpAnyH_take (i := 4) (v := ?_) rfl (by kernel_rfl) (by kernel_rfl) (by kernel_rfl) (fun _ _ _ h => h) (Or.inl ⟨by rfl, ?hy⟩) (by assumption) ?_
            case hy => (intro w hSw; (try dsimp only at hSw); go_simp; try (with_reducible rfl))
            (try simp only [List.getElem_toArray, List.getElem_cons_succ, List.getElem_cons_zero, Act.put, List.setIfInBounds_toArray, List.set_cons_zero, List.set_cons_succ])
            refine wpAnyH_take (i := 6) (v := ?_) rfl (by kernel_rfl) (by kernel_rfl) (by kernel_rfl) (fun _ _ _ h => h) (Or.inl ⟨by rfl, ?hy⟩) (by assumption) ?_
            case hy => (intro w hSw; (try dsimp only at hSw); go_simp; try (with_reducible rfl))
            (try simp only [List.getElem_toArray, List.getElem_cons_succ, List.getElem_cons_zero, Act.put, List.setIfInBounds_toArray, List.set_cons_zero, List.set_cons_succ])
            refine wpAnyH_ready (rs := [1]) (by kernel_rfl) (by simp) ?_
            refine AllReadyH.cons rfl (fun KK hKK => ?_) AllReadyH.nil
            go_simp
            skip
            refine hKK.out _ _ (by exact HQ.out _ hB0) (fun hHeld => ?_)
            clear hKK KK
            (try simp only [List.getElem_toArray, List.getElem_cons_succ, List.getElem_cons_zero, Act.put, List.setIfInBounds_toArray, List.set_cons_zero, List.set_cons_succ])
            refine wpAnyH_ready (rs := [3]) (by kernel_rfl) (by simp) ?_
            refine AllReadyH.cons rfl (fun KK hKK => ?_) AllReadyH.nil
            (refine step_app_vars rfl (.tmp 36) (.tmp 37) rfl wX.heap.size _ [] rfl hO0 p q e V rfl (HVb.out _ hB0) (by simp; omega) hle ?_; intro v1 w4 ho1 hg1; rw [List.nil_append] at ho1; have hB4 : Below W.heap.size W w4 := hB0.grown hg1 (by have := hB0.size; omega) (fun k hk => by have h1 := B3.out.size; have h2 := own_at hk; omega); have hle4 : wX.heap.size ≤ w4.heap.size := Nat.le_trans hle hg1.size)
            refine hKK.out _ _ (by exact HQ.out _ hB4) (fun hHeld => ?_)
            clear hKK KK
            (try simp only [List.getElem_toArray, List.getElem_cons_succ, List.getElem_cons_zero, Act.put, List.setIfInBounds_toArray, List.set_cons_zero, List.set_cons_succ])
            refine wpAnyH_ready (rs := [5]) (by kernel_rfl) (by simp) ?_
            refine AllReadyH.cons rfl (fun KK hKK => ?_) AllReadyH.nil
            (refine step_app_vars rfl (.tmp 38) (.tmp 39) rfl wX.heap.size v1 V rfl ho1 p2 q2 e2 M rfl (HMb.out _ hB4) (by rw [← HqV.out]; omega) hle4 ?_; intro v2 w5 ho2 hg2; have hB5 : Below W.heap.size W w5 := hB4.grown hg2 hB4.size (fun k hk => by have := ho1.lt k hk; have := B3.out.size; omega); have hB56 : Below wX.heap.size wX w5 := ((bel_trans (bel_alloc (Below.refl _ _) _) (Below.refl _ _).drew).grown hg1 hle (fun k hk => Nat.le_of_eq (own_at hk))).grown hg2 hle4 (fun k hk => ho1.lt k hk); obtain ⟨A6, C6, rfl, hS6⟩ := ho2.slV; have hN6 : (V ++ M).length = q + q2 := (by rw [List.length_append, ← HqV.out, (HMb.out _ hB4).1.1]); have hS7 : SlV w5 A6 (q + q2) C6 (V ++ M) := hN6 ▸ hS6)
            refine hKK.out _ _ (by exact HQ.out _ hB5) (fun hHeld => ?_)
            clear hKK KK
            (try simp only [List.getElem_toArray, List.getElem_cons_succ, List.getElem_cons_zero, Act.put, List.setIfInBounds_toArray, List.set_cons_zero, List.set_cons_succ])
            refine wpAnyH_ready (rs := [7]) (by kernel_rfl) (by simp) ?_
            refine AllReadyH.cons rfl (fun KK hKK => ?_) AllReadyH.nil
            go_simp
            (go_at_call 18; ((with_reducible refine (K2 A6 (q + q2) C6 _ (by first | assumption | exact Below.drew (by assumption) | exact Below.refl _ _ | exact (Below.refl _ _).drew) hS7 (by omega)).mono ?_); rintro e wX ⟨A8, N8, C8, rfl, hbX⟩; have Bz : Below W.heap.size W wX := bel_trans (by first | assumption | exact Below.drew (by assumption) | exact Below.refl _ _ | exact (Below.refl _ _).drew) hbX; obtain ⟨s0, s1, c0, c1, c2, c3, c4⟩ := HQ.out _ Bz; have HI7 := Lib.hid (SlI.below HI7.out (bel_trans hB56 hbX))))
            refine hKK.out _ _ (by exact HQ.out _ Bz) (fun hHeld => ?_)
            clear hKK KK
            (try simp only [List.getElem_toArray, List.getElem_cons_succ, List.getElem_cons_zero, Act.put, List.setIfInBounds_toArray, List.set_cons_zero, List.set_cons_succ])
            refine wpAnyH_take (i := 8) (v := ?_) rfl (by kernel_rfl) (by kernel_rfl) (by kernel_rfl) (fun _ _ _ h => h) (Or.inl ⟨by rfl, ?hy⟩) (by assumption) ?_
            case hy => (intro w hSw; (try dsimp only at hSw); go_simp; try (with_reducible rfl))
            (try simp only [List.getElem_toArray, List.getElem_cons_succ, List.getElem_cons_zero, Act.put, List.setIfInBounds_toArray, List.set_cons_zero, List.set_cons_succ])
            refine wpAnyH_take (i := 9) (v := ?_) rfl (by kernel_rfl) (by kernel_rfl) (by kernel_rfl) (fun _ _ _ h => h) (Or.inl ⟨by rfl, ?hy⟩) (by assumption) ?_
            case hy => (intro w hSw; (try dsimp only at hSw); go_simp; try (with_reducible rfl))
            (try simp only [List.getElem_toArray, List.getElem_cons_succ, List.getElem_cons_zero, Act.put, List.setIfInBounds_toArray, List.set_cons_zero, List.set_cons_succ])
            refine wpAnyH_take (i := 10) (v := ?_) rfl (by kernel_rfl) (by kernel_rfl) (by kernel_rfl) (fun _ _ _ h => h) (Or.inl ⟨by rfl, ?hy⟩) (by assumption) ?_
            case hy => (intro w hSw; (try dsimp only at hSw); go_simp; try (with_reducible rfl))
            (try simp only [List.getElem_toArray, List.getElem_cons_succ, List.getElem_cons_zero, Act.put, List.setIfInBounds_toArray, List.set_cons_zero, List.set_cons_succ])
            refine wpAnyH_take (i := 11) (v := ?_) rfl (by kernel_rfl) (by kernel_rfl) (by kernel_rfl) (fun _ _ _ h => h) (Or.inl ⟨by rfl, ?hy⟩) (by assumption) ?_
            case hy => (intro w hSw; (try dsimp only at hSw); go_simp; try (with_reducible rfl))
            (try simp only [List.getElem_toArray, List.getElem_cons_succ, List.getElem_cons_zero, Act.put, List.setIfInBounds_toArray, List.set_cons_zero, List.set_cons_succ])
            refine wpAnyH_take (i := 12) (v := ?_) rfl (by kernel_rfl) (by kernel_rfl) (by kernel_rfl) (fun _ _ _ h => h) (Or.inl ⟨by rfl, ?hy⟩) (by assumption) ?_
            case hy => (intro w hSw; (try dsimp only at hSw); go_simp; try (with_reducible rfl))
            (try simp only [List.getElem_toArray, List.getElem_cons_succ, List.getElem_cons_zero, Act.put, List.setIfInBounds_toArray, List.set_cons_zero, List.set_cons_succ])
            refine wpAnyH_done (by kernel_rfl) ?_ _
            refine NoPanic.normal ?_
            all_goals (try go_wp2_with fail)
            go_meet
            exact ⟨⟨_, _, _, rfl, rfl⟩, HI7, Bz⟩
          case rest =>
            obtain ⟨⟨A8, N8, C8, rfl, rfl⟩, HI7, Bz⟩ := hcut
            obtain ⟨s0, s1, c0, c1, c2, c3, c4⟩ := HQ.out _ Bz
            go_wp2_with (first
              | (go_at_call 22; ((with_reducible refine (K3 _ _ _ _ (by first | assumption | exact Below.drew (by assumption) | exact Below.refl _ _ | exact (Below.refl _ _).drew) HI7.out).mono ?_); rintro e wX ⟨rfl, hbX⟩; have Bz : Below W.heap.size W wX := bel_trans (by first | assumption | exact Below.drew (by assumption) | exact Below.refl _ _ | exact (Below.refl _ _).drew) hbX; obtain ⟨s0, s1, c0, c1, c2, c3, c4⟩ := HQ.out _ Bz))
              | (go_at_call 11; ((with_reducible refine (g0 _).mono ?_); rintro e wX ⟨rfl, hbX⟩; have Bz : Below W.heap.size W wX := bel_trans (by first | assumption | exact Below.drew (by assumption) | exact Below.refl _ _ | exact (Below.refl _ _).drew) hbX; obtain ⟨s0, s1, c0, c1, c2, c3, c4⟩ := HQ.out _ Bz)))
            go_ret
            exact ⟨rfl, bel_trans HB.out Bz⟩
theorem wellMore (z : SgZ) (p : Option Addr) (q e : Nat) (V : List Vr) (p2 : Option Addr) (q2 e2 : Nat) (M : List Vr) (t : ClV) (w : World) (hz : z.ok w) (hq : q ≤ 17592186044416) (hV : SlV w p q e V ∧ ∀ v ∈ V, v.1.size ≤ 9223372036854775807 ∧ v.2.size ≤ 9223372036854775807) (hq2 : q2 ≤ 17592186044416) (hM : SlV w p2 q2 e2 M ∧ ∀ v ∈ M, v.1.size ≤ 9223372036854775807 ∧ v.2.size ≤ 9223372036854775807) (hA : ArWC w t.t t.k t.a t.n t.c) :
    Calls Try.prog 7 #[z.val, .slice p q e, .slice p2 q2 e2, t.val] w fun e w' => e = .returned (.bool true) ∧ Below w.heap.size w w' :=
  moreB z p q e V p2 q2 e2 M t.t t.k t.a t.n t.c w hz hq hV.1 hM.1 hA
end Go.Proofs.Ytacncbkcnhlpcaa.Wl
