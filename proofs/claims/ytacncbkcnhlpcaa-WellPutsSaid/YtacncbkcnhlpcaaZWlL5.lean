/-
  What is proved: the law that a term's sort stays, whatever terms of the same sorts are put for its variables.
-/
import Derived.Test.YtacncbkcnhlpcaaZWlJ
import Derived.Test.YtacncbkcnhlpcaaZWlPu
import Derived.Test.YtacncbkcnhlpcaaZWlL1
import Derived.Test.YtacncbkcnhlpcaaB2
import Derived.Test.YtacncbkcnhlpcaaB3
import Derived.Test.YtacncbkcnhlpcaaZLibTs
import Derived.Test.YtacncbkcnhlpcaaZTrmO
import Derived.Deep.RegionHeld3
import Derived.Deep.Cut
import Derived.Deep.CutRange
namespace Go.Proofs.Ytacncbkcnhlpcaa.Wl
open Go.RowKit L T C
open U (sbT getL Pr IsU UsW OwnP AnyT Apply10_any app_pairs)
open Sgn (SlG Fm Core cores)
set_option linter.unusedVariables false
set_option linter.unusedSimpArgs false
set_option maxRecDepth 100000

theorem szTo_dec (k : Nat) (t : Tm) : decide (((szTo k t : Nat) : Int) > (k : Int)) = !decide (size t ≤ k) := by
  by_cases h : size t ≤ k
  · rw [szTo_small t k h]; simp [h]
  · have := szTo_big t k (by omega)
    simp [h]; omega
set_option maxHeartbeats 32000000 in
theorem putsB (z : SgZ) (p : Option Addr) (q e : Nat) (V : List Vr) (t : Tm) (ta : Option Addr) (tn tc : Nat) (la : Option Addr) (ln lc : Nat) (l : List Pr) (w : World) (hz : z.ok w) (hq : q ≤ 17592186044416) (hV : SlV w p q e V) (hA : ArW w t ta tn tc) (hl : UsW w la ln lc l) :
    Calls Try.prog 6 #[z.val, .slice p q e, .agg #[.int .i64 (opT t), .string (nameT t), .int .i64 (numT t), .slice ta tn tc], .slice la ln lc] w fun e w' => e = .returned (.bool true) ∧ Below w.heap.size w w' := by
  obtain ⟨a, n, c, S, b, m, d, G⟩ := z
  obtain ⟨hS, hn, hG, hm, hK⟩ := hz
  dsimp only at hS hn hG hm hK
  unfold SgZ.val
  dsimp only
  obtain ⟨W, hW, hB, S1, T1⟩ := boxesW w a n c b m d (opT t) (nameT t) (numT t) ta tn tc
  have cF := fun (w' : World) (h : Below W.heap.size W w') => Few_any a n c b m d G p q e w' hn ((hG.below hB).below h) hm hK hq
  have zT := fun (w' : World) (h : Below W.heap.size W w') => Size_any t ta tn tc 60 w' (by omega) (ArW.b hA (bel_trans hB h))
  rw [show ((60 : Nat) : Int) = 60 from rfl] at zT
  have dT := szTo_dec 60 t
  rw [show ((60 : Nat) : Int) = 60 from rfl] at dT
  have g0 := fun (w' : World) => goes_any w'
  have HS1 := Lib.hid S1
  have HT1 := Lib.hid T1
  have HB := Lib.hid hB
  have HL : Hid (UsW W la ln lc l) := Lib.hid (UsW.b hl hB)
  have HC := Lib.hid (show fewZ n G q = true → (∀ (x : Tm) (A : Option Addr) (N C : Nat) (w' : World), Below W.heap.size W w' → size x ≤ 4096 → ArW w' x A N C → Calls Try.prog 14 #[.agg #[.slice a n c, .slice b m d], .slice p q e, .agg #[.int .i64 (opT x), .string (nameT x), .int .i64 (numT x), .slice A N C]] w' (TmP (tinW (cores G) V [] x) [] w')) ∧
      (∀ (s : ByteArray) (w' : World), Below W.heap.size W w' → Calls Try.prog 20 #[.slice p q e, .string s] w' fun e w1 => e = .returned (sortA V s) ∧ w1 = w') from fun h => by
    obtain ⟨h1, h2, h3, h4, h5⟩ := few_of hG h
    exact ⟨fun x A N C w' hb hx ha => Term13_any a n c b m d G p q e V x A N C w' ((hG.below hB).below hb) (by omega) h5 ((hV.1.below hB).below hb) (by omega) hx ha, fun s w' hb => Sort13_any s p q e V w' ((hV.1.below hB).below hb) (by omega)⟩)
  have HAp := Lib.hid (show ∀ (F : List Pr) (A : Option Addr) (N C : Nat) (w' : World), Below W.heap.size W w' → (∀ x ∈ F, size x.t ≤ 1000000) → size t ≤ 60 → UsW w' A N C F → Calls Try.prog 21 #[.slice A N C, .agg #[.int .i64 (opT t), .string (nameT t), .int .i64 (numT t), .slice ta tn tc]] w' (AnyT (sbT (getL F 0) t) w') from fun F A N C w' hb h1 h2 h3 => Apply10_any F h1 t (by omega) A N C ta tn tc w' h3 (ArW.b hA (bel_trans hB hb)))
  have hTc : ∀ w', Below W.heap.size W w' → ArW w' t ta tn tc := fun w' h => ArW.b hA (bel_trans hB h)
  generalize hKK : cores G = KK at *
  have HTc := Lib.hid hTc
  have hBd : Below W.heap.size W W := Below.refl _ _
  have HQ := Lib.hid (show ∀ w', Below W.heap.size W w' → (w'.cell? ⟨w.heap.size, 0, none⟩ = some (.slice a n c) ∧ w'.cell? ⟨w.heap.size, 1, none⟩ = some (.slice b m d) ∧ w'.cell? ⟨w.heap.size + 1, 0, none⟩ = some (.int .i64 (opT t)) ∧ w'.cell? ⟨w.heap.size + 1, 1, none⟩ = some (.string (nameT t)) ∧ w'.cell? ⟨w.heap.size + 1, 2, none⟩ = some (.int .i64 (numT t)) ∧ w'.cell? ⟨w.heap.size + 1, 3, none⟩ = some (.slice ta tn tc)) from fun w' h => by
    obtain ⟨t0, t1, t2, t3⟩ := (TBox.b HT1.out h).four
    obtain ⟨s0, s1⟩ := (HS1.out.b h).two
    exact ⟨s0, s1, t0, t1, t2, t3⟩)
  have hln : ln ≤ 9223372036854775807 := by have h1 := hl.2.1; have h2 := hl.2.2.1; unfold maxLen at h2; omega
  clear hS hn hG hm hK hq hV hA hB S1 T1 hl hTc hKK
  obtain ⟨s0, s1, c0, c1, c2, c3⟩ := HQ.out _ hBd
  generalize hFF : fewZ n G q = FF at *
  clear hFF
  cases FF with
  | false =>
    clear HC zT dT HAp HTc
    generalize opT t = op at *
    generalize nameT t = nm at *
    generalize numT t = nu at *
    go_enter Try.func6, Try.ntmps6
    go_wp2_with (first
      | (go_at_call 8; ((with_reducible refine (cF _ (by first | assumption | exact Below.drew (by assumption) | exact Below.refl _ _ | exact (Below.refl _ _).drew)).mono ?_); rintro e wX ⟨rfl, hbX⟩; have Bz : Below W.heap.size W wX := bel_trans (by first | assumption | exact Below.drew (by assumption) | exact Below.refl _ _ | exact (Below.refl _ _).drew) hbX; have zz := HQ.out _ Bz; obtain ⟨s0, s1, c0, c1, c2, c3⟩ := zz))
      | (go_at_call 11; ((with_reducible refine (g0 _).mono ?_); rintro e wX ⟨rfl, hbX⟩; have Bz : Below W.heap.size W wX := bel_trans (by first | assumption | exact Below.drew (by assumption) | exact Below.refl _ _ | exact (Below.refl _ _).drew) hbX; have zz := HQ.out _ Bz; obtain ⟨s0, s1, c0, c1, c2, c3⟩ := zz)))
    go_ret
    exact ⟨rfl, bel_trans HB.out Bz⟩
  | true =>
    obtain ⟨k1, k2⟩ := HC.out rfl
    clear HC
    by_cases q1 : size t ≤ 60
    · rw [decide_eq_true q1] at dT
      have dT : decide ((szTo 60 t : Int) > 60) = false := dT
      have dT2 : ¬ (60 : Int) < (szTo 60 t : Int) := by simpa using dT
      by_cases q2 : 12 < ln
      · have d1 : decide ((ln : Int) > 12) = true := decide_eq_true (by omega)
        have d1' : (12 : Int) < (ln : Int) := by omega
        clear HAp HTc k1 k2
        generalize szTo 60 t = sz at *
        generalize opT t = op at *
        generalize nameT t = nm at *
        generalize numT t = nu at *
        go_enter Try.func6, Try.ntmps6
        go_wp2_with (first
          | (go_at_call 8; ((with_reducible refine (cF _ (by first | assumption | exact Below.drew (by assumption) | exact Below.refl _ _ | exact (Below.refl _ _).drew)).mono ?_); rintro e wX ⟨rfl, hbX⟩; have Bz : Below W.heap.size W wX := bel_trans (by first | assumption | exact Below.drew (by assumption) | exact Below.refl _ _ | exact (Below.refl _ _).drew) hbX; have zz := HQ.out _ Bz; obtain ⟨s0, s1, c0, c1, c2, c3⟩ := zz))
          | (go_at_call 12; ((with_reducible refine (zT _ (by first | assumption | exact Below.drew (by assumption) | exact Below.refl _ _ | exact (Below.refl _ _).drew)).mono ?_); rintro e wX ⟨rfl, hbX⟩; have Bz : Below W.heap.size W wX := bel_trans (by first | assumption | exact Below.drew (by assumption) | exact Below.refl _ _ | exact (Below.refl _ _).drew) hbX; have zz := HQ.out _ Bz; obtain ⟨s0, s1, c0, c1, c2, c3⟩ := zz))
          | (go_at_call 11; ((with_reducible refine (g0 _).mono ?_); rintro e wX ⟨rfl, hbX⟩; have Bz : Below W.heap.size W wX := bel_trans (by first | assumption | exact Below.drew (by assumption) | exact Below.refl _ _ | exact (Below.refl _ _).drew) hbX; have zz := HQ.out _ Bz; obtain ⟨s0, s1, c0, c1, c2, c3⟩ := zz)))
        go_ret
        exact ⟨rfl, bel_trans HB.out Bz⟩
      · have d1 : decide ((ln : Int) > 12) = false := decide_eq_false (by omega)
        have d1' : ¬ (12 : Int) < (ln : Int) := by omega
        have kT := fun (w' : World) (h : Below W.heap.size W w') => k1 t ta tn tc w' h (by omega) (HTc.out w' h)
        have HP := Lib.hid (show ∀ F : List Pr, (∀ x ∈ F, Fit KK V x) → (∀ x ∈ F, size x.t ≤ 1000000) ∧ size (sbT (getL F 0) t) ≤ 4096 from fun F h => ⟨fun x hx => by have := (h x hx).2.2.2; omega, puts_size h q1⟩)
        have HStay := Lib.hid (show ∀ F : List Pr, (∀ x ∈ F, Fit KK V x) → (tinW KK V [] t).e = 0 → (tinW KK V [] (sbT (getL F 0) t)).e = 6 ∨ (tinW KK V [] (sbT (getL F 0) t)).e = 2 ∨ ((tinW KK V [] (sbT (getL F 0) t)).e = 0 ∧ (tinW KK V [] (sbT (getL F 0) t)).so = (tinW KK V [] t).so) from fun F hF ht => by
          have hr : rightE t = 0 := by
            unfold tinW at ht
            refine Classical.byContradiction fun h => ?_
            rw [if_pos h] at ht; exact h ht
          have ht2 : tinW KK V [] t = wlT KK V [] t := by unfold tinW; rw [if_neg (by rw [hr]; simp)]
          rw [ht2] at ht ⊢
          rcases puts_stay hF hr ht with h | h | ⟨h1, h2, h3⟩
          · left; unfold tinW; rw [if_pos (by rw [h]; decide)]; exact h
          · right; left; unfold tinW; rw [if_pos (by rw [h]; decide)]; exact h
          · right; right
            have : tinW KK V [] (sbT (getL F 0) t) = wlT KK V [] (sbT (getL F 0) t) := by unfold tinW; rw [if_neg (by rw [h1]; simp)]
            rw [this]; exact ⟨h2, h3⟩)
        have HFit := Lib.hid (show ∀ x : Pr, (tinW KK V [] x.t).e = 0 → sortV V x.nm = some (tinW KK V [] x.t).so → size x.t ≤ 30 → Fit KK V x from fun x h1 h2 h3 => by
          have hr : rightE x.t = 0 := by
            unfold tinW at h1
            refine Classical.byContradiction fun h => ?_
            rw [if_pos h] at h1; exact h h1
          have ht2 : tinW KK V [] x.t = wlT KK V [] x.t := by unfold tinW; rw [if_neg (by rw [hr]; simp)]
          rw [ht2] at h1 h2
          exact ⟨hr, h1, h2, h3⟩)
        unfold TmP at kT k1
        have Hk1 := Lib.hid k1
        have Hk2 := Lib.hid k2
        clear k1 k2
        generalize szTo 60 t = sz at *
        generalize tinW KK V [] t = R1 at *
        obtain ⟨E1, Y1, Z1⟩ := R1
        dsimp only at *
        generalize opT t = op at *
        generalize nameT t = nm at *
        generalize numT t = nu at *
        go_enter Try.func6, Try.ntmps6
        go_wp2_with (first
          | (go_at_call 8; ((with_reducible refine (cF _ (by first | assumption | exact Below.drew (by assumption) | exact Below.refl _ _ | exact (Below.refl _ _).drew)).mono ?_); rintro e wX ⟨rfl, hbX⟩; have Bz : Below W.heap.size W wX := bel_trans (by first | assumption | exact Below.drew (by assumption) | exact Below.refl _ _ | exact (Below.refl _ _).drew) hbX; have zz := HQ.out _ Bz; obtain ⟨s0, s1, c0, c1, c2, c3⟩ := zz))
          | (go_at_call 12; ((with_reducible refine (zT _ (by first | assumption | exact Below.drew (by assumption) | exact Below.refl _ _ | exact (Below.refl _ _).drew)).mono ?_); rintro e wX ⟨rfl, hbX⟩; have Bz : Below W.heap.size W wX := bel_trans (by first | assumption | exact Below.drew (by assumption) | exact Below.refl _ _ | exact (Below.refl _ _).drew) hbX; have zz := HQ.out _ Bz; obtain ⟨s0, s1, c0, c1, c2, c3⟩ := zz))
          | (go_at_call 14; ((with_reducible refine (kT _ (by first | assumption | exact Below.drew (by assumption) | exact Below.refl _ _ | exact (Below.refl _ _).drew)).mono ?_); rintro e wX ⟨A3, N3, C3, rfl, hI3, hbX⟩; have Bz : Below W.heap.size W wX := bel_trans (by first | assumption | exact Below.drew (by assumption) | exact Below.refl _ _ | exact (Below.refl _ _).drew) hbX; have zz := HQ.out _ Bz; obtain ⟨s0, s1, c0, c1, c2, c3⟩ := zz)))
        have HB3 := Lib.hid Bz
        go_loopw [12, 13] (fun v i wr0 => ∃ (wr : World) (k : Nat) (v' : Value) (F : List Pr), wr = wr0 ∧ k ≤ ln ∧ v' = v ∧ i = .int .i64 k ∧ Below W.heap.size W wr ∧ Hid (OwnP wr W.heap.size v' F) ∧ Hid (∀ x ∈ F, Fit KK V x) ∧ Hid (F.length ≤ k)) (fun _ i _ => ln - (intOf i).toNat)
        case atStart => exact ⟨_, 0, _, [], rfl, by omega, rfl, rfl, HB3.out, Lib.hid (OwnP.nil _ _), Lib.hid (fun x hx => by cases hx), Lib.hid (Nat.zero_le _)⟩
        case round =>
          obtain ⟨wr, k, v, F, rfl, hk, rfl, rfl, hBr, hOw, hFt, hFl⟩ := hrel
          have zz := HQ.out _ hBr
          obtain ⟨s0, s1, c0, c1, c2, c3⟩ := zz
          by_cases hlt : k < ln
          · obtain ⟨bb, o, x, xa, xn, xc, rfl, hbb, y0', y1', y2', y3', y4', hx, hAx⟩ := IsU.at HL.out hlt
            have HY := Lib.hid (show ∀ w', Below W.heap.size W w' → w'.cell? ⟨bb, o + k * 5, none⟩ = some (.string x.nm) ∧ w'.cell? ⟨bb, o + k * 5 + 1, none⟩ = some (.int .i64 (opT x.t)) ∧ w'.cell? ⟨bb, o + k * 5 + 1 + 1, none⟩ = some (.string (nameT x.t)) ∧ w'.cell? ⟨bb, o + k * 5 + 1 + 1 + 1, none⟩ = some (.int .i64 (numT x.t)) ∧ w'.cell? ⟨bb, o + k * 5 + 1 + 1 + 1 + 1, none⟩ = some (.slice xa xn xc) from fun w' h =>
              ⟨(h.cell (p := ⟨bb, _, none⟩) hbb).trans y0', (h.cell (p := ⟨bb, _, none⟩) hbb).trans y1', (h.cell (p := ⟨bb, _, none⟩) hbb).trans y2', (h.cell (p := ⟨bb, _, none⟩) hbb).trans y3', (h.cell (p := ⟨bb, _, none⟩) hbb).trans y4'⟩)
            have HAx := Lib.hid (show ∀ w', Below W.heap.size W w' → ArW w' x.t xa xn xc from fun w' h => ArW.b hAx h)
            have hk0 : 0 ≤ (k : Int) := by omega
            have hk1 : (k : Int) < (ln : Int) := by omega
            have zX := Size_any x.t xa xn xc 30 wr (by omega) (HAx.out wr hBr)
            rw [show ((30 : Nat) : Int) = 30 from rfl] at zX
            have dX := szTo_dec 30 x.t
            rw [show ((30 : Nat) : Int) = 30 from rfl] at dX
            have zz := HY.out _ hBr
            obtain ⟨y0, y1, y2, y3, y4⟩ := zz
            have HFx := Lib.hid (HFit.out x)
            by_cases q3 : size x.t ≤ 30
            · rw [decide_eq_true q3] at dX
              have dX : decide ((szTo 30 x.t : Int) > 30) = false := dX
              have dX2 : ¬ (30 : Int) < (szTo 30 x.t : Int) := by simpa using dX
              have kX := fun (w' : World) (h : Below W.heap.size W w') => Hk1.out x.t xa xn xc w' h (by omega) (HAx.out w' h)
              have kS := fun (w' : World) (h : Below W.heap.size W w') => Hk2.out x.nm w' h
              have HOne := Lib.hid (show ∀ (w1 : World), Below W.heap.size W w1 → U.UP (fun q => q < W.heap.size ∨ q = w1.heap.size) (w1.alloc (.cells #[.string x.nm, .int .i64 (opT x.t), .string (nameT x.t), .int .i64 (numT x.t), .slice xa xn xc] 54)) (some ⟨w1.heap.size, 0, none⟩) 1 1 [x] from fun w1 h => Mt.box_up (Blk.new w1 _ _) (.inr rfl) (ArP.to (fun q hq => (bel_alloc h _).block q hq) (fun q hq => .inl hq) _ (Ar.p _ hAx)))
              clear y0' y1' y2' y3' y4' hAx hx
              generalize szTo 30 x.t = sx at *
              generalize tinW KK V [] x.t = RX at *
              obtain ⟨EX, YX, ZX⟩ := RX
              have hsA : sortA V x.nm = .tuple #[.string ((sortV V x.nm).getD ⟨#[]⟩), .bool (sortV V x.nm).isSome] := by unfold sortA; cases sortV V x.nm <;> rfl
              rw [hsA] at kS
              have HFx2 := Lib.hid (show EX = 0 → (sortV V x.nm).isSome = true → (ZX.toList == ((sortV V x.nm).getD ⟨#[]⟩).toList) = true → Fit KK V x from fun h1 h2 h3 => HFx.out h1 (by
                cases hs : sortV V x.nm with
                | none => rw [hs] at h2; cases h2
                | some y =>
                  rw [hs] at h3
                  have e : ZX = y := eqS_iff.1 h3
                  rw [e]) q3)
              clear HFx hsA
              generalize (sortV V x.nm).getD ⟨#[]⟩ = ZS at *
              generalize (sortV V x.nm).isSome = IS at *
              dsimp only at *
              go_upto_region 10 with (go_at_call 12; ((with_reducible refine zX.mono ?_); rintro e wX ⟨rfl, hbX⟩; have Bz : Below W.heap.size W wX := bel_trans hBr hbX; have Hwr := Lib.hid hbX; have zz := HQ.out _ Bz; obtain ⟨s0, s1, c0, c1, c2, c3⟩ := zz; have zz := HY.out _ Bz; obtain ⟨y0, y1, y2, y3, y4⟩ := zz))
              go_region_held3 (fun w' => w'.cell? ⟨w.heap.size, 0, none⟩ = some (.slice a n c) ∧ w'.cell? ⟨w.heap.size, 1, none⟩ = some (.slice b m d) ∧ w'.cell? ⟨bb, o + k * 5 + 1, none⟩ = some (.int .i64 (opT x.t)) ∧ w'.cell? ⟨bb, o + k * 5 + 1 + 1, none⟩ = some (.string (nameT x.t)) ∧ w'.cell? ⟨bb, o + k * 5 + 1 + 1 + 1, none⟩ = some (.int .i64 (numT x.t)) ∧ w'.cell? ⟨bb, o + k * 5 + 1 + 1 + 1 + 1, none⟩ = some (.slice xa xn xc))
                (first | (exact ⟨(HQ.out _ B10).1, (HQ.out _ B10).2.1, (HY.out _ B10).2⟩) | (exact ⟨(HQ.out _ (Below.drew Bz)).1, (HQ.out _ (Below.drew Bz)).2.1, (HY.out _ (Below.drew Bz)).2⟩) | go_keep)
                ((go_at_call 14; ((with_reducible refine (kX _ (Below.drew Bz)).mono ?_); rintro e wY ⟨A7, N7, C7, rfl, hI7, hbY⟩; have B10 : Below W.heap.size W wY := bel_trans (Below.drew Bz) hbY)))
              have hwY : Below wr.heap.size wr wY := bel_trans (bel_trans Hwr.out (Below.refl _ _).drew) hbY
              have zz := HY.out _ B10
              obtain ⟨y0, y1, y2, y3, y4⟩ := zz
              clear s0 s1 c0 c1 c2 c3 hI7
              by_cases hE : EX = 0
              · subst hE
                cases IS with
                | true =>
                  cases hZ : ZX.toList == ZS.toList with
                  | true =>
                    have hZ2 : (ZX.toList = ZS.toList) = True := by simpa using hZ
                    have hFx := Lib.hid (HFx2.out rfl rfl hZ)
                    clear HFx2
                    go_wp2_with (first | (go_at_call 20; ((with_reducible refine (kS _ B10).mono ?_); rintro e wZ ⟨rfl, hwZ⟩; have hwZ2 := hwZ.symm; subst hwZ2)) | (at_builtin; ((refine app_pairs rfl (.tmp 92) (.tmp 97) rfl W.heap.size v F rfl (OwnP.below (hOw.out) (bel_trans hwY (bel_alloc (Below.refl _ _) _))) (fun q => q < W.heap.size ∨ q = wY.heap.size) (fun q hq => ⟨by have := B10.size; simp; omega, fun e => by have := (OwnP.below hOw.out hwY).lt q e; omega⟩) _ _ _ [x] rfl (HOne.out wY B10) (by have := hFl.out; simp; omega) (by have := B10.size; simp; omega) ?_); intro v2 w2 ho2 hg2)))
                    have hB2 : Below W.heap.size W w2 := (bel_alloc B10 _).grown hg2 (by have := B10.size; simp; omega) (fun q hq => ((OwnP.below hOw.out hwY).lt q hq).1)
                    have hnewF : Hid (∀ y ∈ F ++ [x], Fit KK V y) := Lib.hid fun y hy => by
                      rcases List.mem_append.1 hy with hy | hy
                      · exact hFt.out y hy
                      · simp at hy; subst hy; exact hFx.out
                    have hnewL : Hid ((F ++ [x]).length ≤ k + 1) := Lib.hid (by have := hFl.out; simp; omega)
                    have HO2 := Lib.hid ho2
                    clear ho2 hg2 hOw hFt hFl hFx
                    go_roundw
                    case rel => exact ⟨_, k + 1, v2, F ++ [x], rfl, by omega, rfl, by go_num, hB2, HO2, hnewF, hnewL⟩
                    case measure => simp [intOf]; omega
                  | false =>
                    have hZ2 : (ZX.toList = ZS.toList) = False := by simpa using hZ
                    clear HFx2
                    go_wp2_with (go_at_call 20; ((with_reducible refine (kS _ B10).mono ?_); rintro e wZ ⟨rfl, hwZ⟩; have hwZ2 := hwZ.symm; subst hwZ2))
                    have hOw2 := Lib.hid (OwnP.below hOw.out hwY)
                    have hFl2 : Hid (F.length ≤ k + 1) := Lib.hid (by have := hFl.out; omega)
                    clear hOw hFl
                    go_roundw
                    case rel => exact ⟨_, k + 1, v, F, rfl, by omega, rfl, by go_num, B10, hOw2, hFt, hFl2⟩
                    case measure => simp [intOf]; omega
                | false =>
                  clear HFx2
                  go_wp2_with (go_at_call 20; ((with_reducible refine (kS _ B10).mono ?_); rintro e wZ ⟨rfl, hwZ⟩; have hwZ2 := hwZ.symm; subst hwZ2))
                  have hOw2 := Lib.hid (OwnP.below hOw.out hwY)
                  have hFl2 : Hid (F.length ≤ k + 1) := Lib.hid (by have := hFl.out; omega)
                  clear hOw hFl
                  go_roundw
                  case rel => exact ⟨_, k + 1, v, F, rfl, by omega, rfl, by go_num, B10, hOw2, hFt, hFl2⟩
                  case measure => simp [intOf]; omega
              · have hE2 : (EX == 0) = false := by simp [hE]
                have hE3 : (EX = 0) = False := by simp [hE]
                clear HFx2
                go_wp2_with (go_at_call 20; ((with_reducible refine (kS _ B10).mono ?_); rintro e wZ ⟨rfl, hwZ⟩; have hwZ2 := hwZ.symm; subst hwZ2))
                have hOw2 := Lib.hid (OwnP.below hOw.out hwY)
                have hFl2 : Hid (F.length ≤ k + 1) := Lib.hid (by have := hFl.out; omega)
                clear hOw hFl
                go_roundw
                case rel => exact ⟨_, k + 1, v, F, rfl, by omega, rfl, by go_num, B10, hOw2, hFt, hFl2⟩
                case measure => simp [intOf]; omega
            · rw [decide_eq_false q3] at dX
              have dX : decide ((szTo 30 x.t : Int) > 30) = true := dX
              have dX2 : (30 : Int) < (szTo 30 x.t : Int) := by simpa using dX
              clear HFx y0' y1' y2' y3' y4' hAx hx hOw hFt hFl
              go_wp2_with (first
                | (go_at_call 12; ((with_reducible refine zX.mono ?_); rintro e wX ⟨rfl, hbX⟩; have Bz : Below W.heap.size W wX := bel_trans hBr hbX))
                | (go_at_call 11; ((with_reducible refine (g0 _).mono ?_); rintro e wX ⟨rfl, hbX⟩; have Bz : Below W.heap.size W wX := bel_trans (by first | assumption | exact Below.drew (by assumption) | exact Below.refl _ _ | exact (Below.refl _ _).drew) hbX; have zz := HQ.out _ Bz; obtain ⟨s0, s1, c0, c1, c2, c3⟩ := zz)))
              go_ret
              exact ⟨rfl, bel_trans HB.out Bz⟩
          · have hk0 : ¬ (k : Int) < (ln : Int) := by omega
            obtain ⟨A5, C5, rfl, -⟩ := OwnP.slice hOw.out
            obtain ⟨p1, p2⟩ := HP.out F hFt.out
            have kA := HAp.out F A5 _ C5 wr hBr p1 q1 (OwnP.us hOw.out)
            have kU := fun (A : Option Addr) (N C : Nat) (w' : World) (h : Below W.heap.size W w') (h2 : ArW w' (sbT (getL F 0) t) A N C) => Hk1.out (sbT (getL F 0) t) A N C w' h p2 h2
            have hst := HStay.out F hFt.out
            generalize sbT (getL F 0) t = u at *
            unfold AnyT at kA
            generalize tinW KK V [] u = RU at *
            obtain ⟨EU, YU, ZU⟩ := RU
            dsimp only at *
            have HSt := Lib.hid hst
            generalize F.length = fl at *
            clear hst hOw hFt hFl HStay HFit p1 p2
            by_cases hE1 : E1 = 0
            · rcases HSt.out hE1 with hU | hU | ⟨hU, hZ⟩
              · subst hU
                have g1 : (E1 != 0) = false := by simp [hE1]
                clear HSt
                subst hE1
                go_wp2_with (first
                  | (go_at_call 21; ((with_reducible refine kA.mono ?_); rintro e wX ⟨A6, N6, C6, rfl, hA6, hbX⟩; have Bz : Below W.heap.size W wX := bel_trans hBr hbX; have T6 := TBox.new wX (opT u) (nameT u) (numT u) A6 N6 C6; have b6 : Below wX.heap.size wX (wX.alloc (.cells #[.int .i64 (opT u), .string (nameT u), .int .i64 (numT u), .slice A6 N6 C6] 33)) := bel_alloc (Below.refl _ _) _; have B6 := bel_trans Bz b6; have zz := HQ.out _ B6; obtain ⟨s0, s1, c0, c1, c2, c3⟩ := zz; have zz := T6.four; obtain ⟨x0, x1, x2, x3⟩ := zz; have k6 := kU A6 N6 C6 _ B6 (ArW.b hA6 b6)))
                  | (go_at_call 14; ((with_reducible refine k6.mono ?_); rintro e wY ⟨A7, N7, C7, rfl, hI7, hbY⟩; have B7 : Below W.heap.size W wY := bel_trans B6 hbY))
                  | (go_at_call 11; ((with_reducible refine (g0 _).mono ?_); rintro e wZ ⟨rfl, hbZ⟩; have B8 : Below W.heap.size W wZ := bel_trans B7 hbZ)))
                go_ret
                exact ⟨rfl, bel_trans HB.out B8⟩
              · subst hU
                have g1 : (E1 != 0) = false := by simp [hE1]
                clear HSt
                subst hE1
                go_wp2_with (first
                  | (go_at_call 21; ((with_reducible refine kA.mono ?_); rintro e wX ⟨A6, N6, C6, rfl, hA6, hbX⟩; have Bz : Below W.heap.size W wX := bel_trans hBr hbX; have T6 := TBox.new wX (opT u) (nameT u) (numT u) A6 N6 C6; have b6 : Below wX.heap.size wX (wX.alloc (.cells #[.int .i64 (opT u), .string (nameT u), .int .i64 (numT u), .slice A6 N6 C6] 33)) := bel_alloc (Below.refl _ _) _; have B6 := bel_trans Bz b6; have zz := HQ.out _ B6; obtain ⟨s0, s1, c0, c1, c2, c3⟩ := zz; have zz := T6.four; obtain ⟨x0, x1, x2, x3⟩ := zz; have k6 := kU A6 N6 C6 _ B6 (ArW.b hA6 b6)))
                  | (go_at_call 14; ((with_reducible refine k6.mono ?_); rintro e wY ⟨A7, N7, C7, rfl, hI7, hbY⟩; have B7 : Below W.heap.size W wY := bel_trans B6 hbY))
                  | (go_at_call 11; ((with_reducible refine (g0 _).mono ?_); rintro e wZ ⟨rfl, hbZ⟩; have B8 : Below W.heap.size W wZ := bel_trans B7 hbZ)))
                go_ret
                exact ⟨rfl, bel_trans HB.out B8⟩
              · subst hU
                subst hE1
                subst hZ
                clear HSt
                go_wp2_with (first
                  | (go_at_call 21; ((with_reducible refine kA.mono ?_); rintro e wX ⟨A6, N6, C6, rfl, hA6, hbX⟩; have Bz : Below W.heap.size W wX := bel_trans hBr hbX; have T6 := TBox.new wX (opT u) (nameT u) (numT u) A6 N6 C6; have b6 : Below wX.heap.size wX (wX.alloc (.cells #[.int .i64 (opT u), .string (nameT u), .int .i64 (numT u), .slice A6 N6 C6] 33)) := bel_alloc (Below.refl _ _) _; have B6 := bel_trans Bz b6; have zz := HQ.out _ B6; obtain ⟨s0, s1, c0, c1, c2, c3⟩ := zz; have zz := T6.four; obtain ⟨x0, x1, x2, x3⟩ := zz; have k6 := kU A6 N6 C6 _ B6 (ArW.b hA6 b6)))
                  | (go_at_call 14; ((with_reducible refine k6.mono ?_); rintro e wY ⟨A7, N7, C7, rfl, hI7, hbY⟩; have hN7 : N7 = 0 := (by simpa using hI7.1); subst hN7; have B7 : Below W.heap.size W wY := bel_trans B6 hbY))
                  | (go_at_call 11; ((with_reducible refine (g0 _).mono ?_); rintro e wZ ⟨rfl, hbZ⟩; have B8 : Below W.heap.size W wZ := bel_trans B7 hbZ)))
                go_ret
                exact ⟨rfl, bel_trans HB.out B8⟩
            · have g1 : (E1 != 0) = true := by simp [hE1]
              clear HSt
              go_wp2_with (first
                | (go_at_call 21; ((with_reducible refine kA.mono ?_); rintro e wX ⟨A6, N6, C6, rfl, hA6, hbX⟩; have Bz : Below W.heap.size W wX := bel_trans hBr hbX; have T6 := TBox.new wX (opT u) (nameT u) (numT u) A6 N6 C6; have b6 : Below wX.heap.size wX (wX.alloc (.cells #[.int .i64 (opT u), .string (nameT u), .int .i64 (numT u), .slice A6 N6 C6] 33)) := bel_alloc (Below.refl _ _) _; have B6 := bel_trans Bz b6; have zz := HQ.out _ B6; obtain ⟨s0, s1, c0, c1, c2, c3⟩ := zz; have zz := T6.four; obtain ⟨x0, x1, x2, x3⟩ := zz; have k6 := kU A6 N6 C6 _ B6 (ArW.b hA6 b6)))
                | (go_at_call 14; ((with_reducible refine k6.mono ?_); rintro e wY ⟨A7, N7, C7, rfl, hI7, hbY⟩; have B7 : Below W.heap.size W wY := bel_trans B6 hbY))
                | (go_at_call 11; ((with_reducible refine (g0 _).mono ?_); rintro e wZ ⟨rfl, hbZ⟩; have B8 : Below W.heap.size W wZ := bel_trans B7 hbZ)))
              go_ret
              exact ⟨rfl, bel_trans HB.out B8⟩
    · rw [decide_eq_false q1] at dT
      have dT : decide ((szTo 60 t : Int) > 60) = true := dT
      have dT2 : (60 : Int) < (szTo 60 t : Int) := by simpa using dT
      clear HAp HTc k1 k2
      generalize szTo 60 t = sz at *
      generalize opT t = op at *
      generalize nameT t = nm at *
      generalize numT t = nu at *
      go_enter Try.func6, Try.ntmps6
      go_wp2_with (first
        | (go_at_call 8; ((with_reducible refine (cF _ (by first | assumption | exact Below.drew (by assumption) | exact Below.refl _ _ | exact (Below.refl _ _).drew)).mono ?_); rintro e wX ⟨rfl, hbX⟩; have Bz : Below W.heap.size W wX := bel_trans (by first | assumption | exact Below.drew (by assumption) | exact Below.refl _ _ | exact (Below.refl _ _).drew) hbX; have zz := HQ.out _ Bz; obtain ⟨s0, s1, c0, c1, c2, c3⟩ := zz))
        | (go_at_call 12; ((with_reducible refine (zT _ (by first | assumption | exact Below.drew (by assumption) | exact Below.refl _ _ | exact (Below.refl _ _).drew)).mono ?_); rintro e wX ⟨rfl, hbX⟩; have Bz : Below W.heap.size W wX := bel_trans (by first | assumption | exact Below.drew (by assumption) | exact Below.refl _ _ | exact (Below.refl _ _).drew) hbX; have zz := HQ.out _ Bz; obtain ⟨s0, s1, c0, c1, c2, c3⟩ := zz))
        | (go_at_call 11; ((with_reducible refine (g0 _).mono ?_); rintro e wX ⟨rfl, hbX⟩; have Bz : Below W.heap.size W wX := bel_trans (by first | assumption | exact Below.drew (by assumption) | exact Below.refl _ _ | exact (Below.refl _ _).drew) hbX; have zz := HQ.out _ Bz; obtain ⟨s0, s1, c0, c1, c2, c3⟩ := zz)))
      go_ret
      exact ⟨rfl, bel_trans HB.out Bz⟩
theorem wellPuts (z : SgZ) (p : Option Addr) (q e : Nat) (V : List Vr) (t : TmV) (la : Option Addr) (ln lc : Nat) (l : List Pr) (w : World) (hz : z.ok w) (hq : q ≤ 17592186044416) (hV : SlV w p q e V ∧ ∀ v ∈ V, v.1.size ≤ 9223372036854775807 ∧ v.2.size ≤ 9223372036854775807) (hA : ArW w t.t t.a t.n t.c) (_ : ln ≤ 9223372036854775807) (hl : UsW w la ln lc l ∧ U.smU l) :
    Calls Try.prog 6 #[z.val, .slice p q e, t.val, .slice la ln lc] w fun e w' => e = .returned (.bool true) ∧ Below w.heap.size w w' :=
  putsB z p q e V t.t t.a t.n t.c la ln lc l w hz hq hV.1 hA hl.1
end Go.Proofs.Ytacncbkcnhlpcaa.Wl
