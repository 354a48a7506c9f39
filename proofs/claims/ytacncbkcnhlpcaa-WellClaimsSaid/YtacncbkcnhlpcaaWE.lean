/-
  What is proved: what is wrong with the sorts of any claim, by the document's answer of layer 13.
  What is proved: the law that a claim's check agrees with the document's answer.
-/
import Derived.Test.YtacncbkcnhlpcaaZWlCi
import Derived.Test.YtacncbkcnhlpcaaWD
import Derived.Test.YtacncbkcnhlpcaaZWlCm
import Derived.Test.YtacncbkcnhlpcaaZWlFw
import Derived.Test.YtacncbkcnhlpcaaZWlG
import Derived.Test.YtacncbkcnhlpcaaZWlK
import Derived.Test.YtacncbkcnhlpcaaWX
import Derived.Test.YtacncbkcnhlpcaaZClmO
namespace Go.Proofs.Ytacncbkcnhlpcaa.Wl
open Go.RowKit L T C
open Sgn (SlG Fm Core cores)
set_option linter.unusedVariables false
set_option linter.unusedSimpArgs false
set_option maxRecDepth 100000

theorem wantC_so (K : List Core) (o : Int) (s : ByteArray) (got : List ByteArray) : (wantC K o s got).so = ⟨#[]⟩ := by
  unfold wantC
  split
  · split
    · rfl
    · split
      · rfl
      · unfold askW; split <;> rfl
  · split
    · unfold askW; split <;> rfl
    · split
      · unfold askW; split <;> rfl
      · rfl
theorem wlC_so (S : List ByteArray) (K : List Core) (V : List Vr) (B : List ByteArray) (t : Cl) : (wlC S K V B t).so = ⟨#[]⟩ := by
  rw [wlC_mk]
  split
  · rfl
  · split
    · rfl
    · generalize wlCs S K V (if (opC t == 11 || opC t == 12) = true then B ++ [soC t] else B) (tsC t).length (subC t) = R
      split
      · rfl
      · exact wantC_so _ _ _ _
set_option maxHeartbeats 8000000 in
theorem ClaimIn13_any (a : Option Addr) (n c : Nat) (S : List ByteArray) (b : Option Addr) (m d : Nat) (G : List Fm) (vp : Option Addr) (vn vc : Nat) (V : List Vr) (t : Cl) (ks : SS) (ta : Option Addr) (tn tc : Nat) (w : World)
    (hS : IsS w a n S) (hn : n ≤ 1000000) (hG : SlG w b m d G) (hm : m ≤ 1000000) (hV : IsV w vp vn V) (hvn : vn ≤ 1000000) (hz : wt t ≤ 4096) (hA : ArWC w t ks ta tn tc) :
    Calls Try.prog 19 #[.agg #[.slice a n c, .slice b m d], .slice vp vn vc, .slice none 0 0, .agg #[.int .i64 (opC t), .string (nmC t), .string (soC t), .slice ks.a ks.n ks.c, .slice ta tn tc]] w fun e w' => ∃ A N C, e = .returned (.agg #[.string ⟨#[]⟩, .slice A N C, .int .i64 (cinW S (cores G) V [] t).e]) ∧ SlI w' A N C (cinW S (cores G) V [] t).way ∧ Below w.heap.size w w' := by
  obtain ⟨W3, hW3, hB3, S3, T3, R3, hs3⟩ := boxesGC w a n c b m d (opC t) (nmC t) (soC t) ks ta tn tc
  have cR := Right13_any t ks ta tn tc W3 (ArWC.b hA hB3)
  have cC : crightE t = 0 → ∀ w', Below W3.heap.size W3 w' → _ := fun hr w' h => cin_any t ⟨a, n, c, b, m, d, 0, vp, vn, vc, none, 0, 0, G, V, []⟩ S ks ta tn tc w' ⟨hG.below (bel_trans hB3 h), hm, hV.below (bel_trans hB3 h), hvn, IsS.nil _ _, Nat.zero_le _⟩ (hS.below (bel_trans hB3 h)) hn (cright_part hr) (by omega) (by show 0 + wt t ≤ 1000000; omega) (Nat.le_refl _) (fun _ => rfl) (ArWC.b hA (bel_trans hB3 h))
  have hSo := wlC_so S (cores G) V [] t
  have hK : (⟨a, n, c, b, m, d, 0, vp, vn, vc, none, 0, 0, G, V, []⟩ : Ev).K = cores G := rfl
  have hP0 : crightE t ≠ 0 → cinW S (cores G) V [] t = .bad (crightE t) [] := fun h => by unfold cinW; rw [if_pos h]
  have hP1 : crightE t = 0 → cinW S (cores G) V [] t = wlC S (cores G) V [] t := fun h => by unfold cinW; rw [if_neg (by rw [h]; simp)]
  have HQ := Lib.hid (show ∀ w', Below W3.heap.size W3 w' → (w'.cell? ⟨w.heap.size, 0, none⟩ = some (.slice a n c) ∧ w'.cell? ⟨w.heap.size, 1, none⟩ = some (.slice b m d) ∧ w'.cell? ⟨w.heap.size + 1, 0, none⟩ = some (.int .i64 (opC t)) ∧ w'.cell? ⟨w.heap.size + 1, 1, none⟩ = some (.string (nmC t)) ∧ w'.cell? ⟨w.heap.size + 1, 2, none⟩ = some (.string (soC t)) ∧ w'.cell? ⟨w.heap.size + 1, 3, none⟩ = some (.slice ks.a ks.n ks.c) ∧ w'.cell? ⟨w.heap.size + 1, 4, none⟩ = some (.slice ta tn tc)) ∧
      (w'.cell? ⟨w.heap.size + 2, 0, none⟩ = some (.string ⟨#[]⟩) ∧ w'.cell? ⟨w.heap.size + 2, 1, none⟩ = some (.slice none 0 0) ∧ w'.cell? ⟨w.heap.size + 2, 2, none⟩ = some (.int .i64 0)) ∧ (w'.frozen? ⟨w.heap.size + 2, 0, none⟩ = false ∧ w'.frozen? ⟨w.heap.size + 2, 1, none⟩ = false ∧ w'.frozen? ⟨w.heap.size + 2, 2, none⟩ = false) ∧ GBox w' (w.heap.size + 2) ⟨#[]⟩ none 0 0 0 from fun w' h => by
    obtain ⟨t0, t1, t2, t3, t4⟩ := (CBox.b T3 h).five
    obtain ⟨s0, s1⟩ := (S3.b h).two
    exact ⟨⟨s0, s1, t0, t1, t2, t3, t4⟩, (GBox.b R3 h).three, (GBox.b R3 h).free, GBox.b R3 h⟩)
  obtain ⟨ka, kn, kc⟩ := ks
  obtain ⟨⟨s0, s1, t0, t1, t2, t3, t4⟩, ⟨r0, r1, r2⟩, ⟨q0, q1, q2⟩, -⟩ := HQ.out W3 (Below.refl _ _)
  have HB3 := Lib.hid hB3
  have Hs3 := Lib.hid hs3
  clear hS hn hG hm hV hvn hz hA S3 T3 R3 hB3 hs3
  dsimp only at *
  by_cases hr : crightE t = 0
  · have hT := hP1 hr
    have cC := cC hr
    rw [hr] at cR
    rw [hK] at cC
    unfold GtP at cC
    rw [hSo] at cC
    have HT := Lib.hid hT
    clear hT hr hP0 hP1 hSo hK
    generalize wlC S (cores G) V [] t = WT at *
    generalize cinW S (cores G) V [] t = CT at *
    generalize opC t = op at *
    generalize nmC t = nm at *
    generalize soC t = so at *
    go_enter Try.func19, Try.ntmps19
    go_wp2_with (first
      | (go_at_call 35; ((with_reducible refine cR.mono ?_); rintro e w4 ⟨rfl, hb4⟩; have zz := HQ.out _ hb4; obtain ⟨⟨s0, s1, t0, t1, t2, t3, t4⟩, -⟩ := zz))
      | (go_at_call 36; ((with_reducible refine (cC _ hb4).mono ?_); rintro e w5 ⟨A5, N5, C5, rfl, hI5, hb5, ho5⟩; have B5 := bel_trans hb4 hb5; have zz := HQ.out _ B5; obtain ⟨-, ⟨r0, r1, r2⟩, ⟨q0, q1, q2⟩, HG5⟩ := zz)))
    have hfar : ∀ b o, A5 = some ⟨b, o, none⟩ → 0 < N5 → b ≠ w.heap.size + 2 := ho5 _ (by have := hb4.size; have := Hs3.out; omega)
    have R6 := HG5.put ⟨#[]⟩ A5 N5 C5 WT.e
    obtain ⟨x0, x1, x2⟩ := R6.three
    have HZ := Lib.hid (show SlI (((w5.setCell ⟨w.heap.size + 2, 0, none⟩ (.string ⟨#[]⟩)).setCell ⟨w.heap.size + 2, 1, none⟩ (.slice A5 N5 C5)).setCell ⟨w.heap.size + 2, 2, none⟩ (.int .i64 WT.e)) A5 N5 C5 CT.way ∧ Below w.heap.size w (((w5.setCell ⟨w.heap.size + 2, 0, none⟩ (.string ⟨#[]⟩)).setCell ⟨w.heap.size + 2, 1, none⟩ (.slice A5 N5 C5)).setCell ⟨w.heap.size + 2, 2, none⟩ (.int .i64 WT.e)) from
      ⟨by rw [HT.out]; exact ((hI5.far hfar (.string ⟨#[]⟩)).far hfar (.slice A5 N5 C5)).far hfar (.int .i64 WT.e), Sgn.below_set3 (bel_trans HB3.out B5) (show w.heap.size ≤ w.heap.size + 2 by omega) (.string ⟨#[]⟩) (.slice A5 N5 C5) (.int .i64 WT.e)⟩)
    first
      | exact ⟨A5, N5, C5, by rw [HT.out], HZ.out.1, HZ.out.2⟩
      | (simp [bodyPost, results, Try.results19, go_sem, x0, x1, x2]; exact ⟨A5, N5, C5, ⟨⟨rfl, rfl, rfl⟩, by rw [HT.out]⟩, HZ.out.1, HZ.out.2⟩)
      | (simp [bodyPost, results, Try.results19, go_sem, x0, x1, x2]; refine ⟨A5, N5, C5, ?_, HZ.out.1, HZ.out.2⟩; simp [HT.out])
  · have hne : (crightE t != 0) = true := bne_iff_ne.2 hr
    have hT := hP0 hr
    have HT := Lib.hid hT
    clear hT hP0 hP1 hSo hK cC
    generalize cinW S (cores G) V [] t = CT at *
    generalize crightE t = ER at *
    generalize opC t = op at *
    generalize nmC t = nm at *
    generalize soC t = so at *
    go_enter Try.func19, Try.ntmps19
    go_wp2_with (go_at_call 35; ((with_reducible refine cR.mono ?_); rintro e w4 ⟨rfl, hb4⟩; have zz := HQ.out _ hb4; obtain ⟨⟨s0, s1, t0, t1, t2, t3, t4⟩, ⟨r0, r1, r2⟩, ⟨q0, q1, q2⟩, HG5⟩ := zz))
    have R6 := HG5.put ⟨#[]⟩ none 0 0 ER
    obtain ⟨x0, x1, x2⟩ := R6.three
    have HZ := Lib.hid (Sgn.below_set3 (bel_trans HB3.out hb4) (show w.heap.size ≤ w.heap.size + 2 by omega) (.string ⟨#[]⟩) (.slice none 0 0) (.int .i64 ER))
    first
      | exact ⟨none, 0, 0, by rw [HT.out]; rfl, by rw [HT.out]; exact SlI.nil _, HZ.out⟩
      | (simp [bodyPost, results, Try.results19, go_sem, x0, x1, x2]; refine ⟨none, 0, 0, ?_, (by rw [HT.out]; exact SlI.nil _), HZ.out⟩; simp [HT.out, Wr.bad])
end Go.Proofs.Ytacncbkcnhlpcaa.Wl
namespace Go.Proofs.Ytacncbkcnhlpcaa.Wl
open Go.RowKit L T C
open Sgn (SlG Fm Core cores)
set_option linter.unusedVariables false
set_option linter.unusedSimpArgs false
set_option maxRecDepth 100000

theorem wantC_way0 {K : List Core} {o : Int} {s : ByteArray} {got : List ByteArray} (h : (wantC K o s got).e = 0) : (wantC K o s got).way = [] := by
  have ha : ∀ g d : List ByteArray, (askW g d ⟨#[]⟩).e = 0 → (askW g d ⟨#[]⟩).way = [] := fun g d h => by
    unfold askW at h ⊢
    split at h
    · cases h
    · rfl
  unfold wantC at h ⊢
  split at h
  · rename_i h3
    rw [if_pos h3]
    split at h
    · cases h
    · rename_i h4
      rw [if_neg h4]
      split at h
      · cases h
      · rename_i h5
        rw [if_neg h5]; exact ha _ _ h
  · rename_i h3
    rw [if_neg h3]
    split at h
    · rename_i h4
      rw [if_pos h4]; exact ha _ _ h
    · rename_i h4
      rw [if_neg h4]
      split at h
      · rename_i h5
        rw [if_pos h5]; exact ha _ _ h
      · rename_i h5
        rw [if_neg h5]; rfl
theorem wlC_way0 {S : List ByteArray} {K : List Core} {V : List Vr} {B : List ByteArray} {t : Cl} (h : (wlC S K V B t).e = 0) : (wlC S K V B t).way = [] := by
  rw [wlC_mk] at h ⊢
  by_cases h1 : (wlTs K V B 0 (tsC t)).1 ≠ 0
  · rw [if_pos h1] at h; exact absurd h h1
  rw [if_neg h1] at h ⊢
  by_cases h2 : ((opC t == 11 || opC t == 12) && !rangeB S (soC t)) = true
  · rw [if_pos h2] at h; cases h
  rw [if_neg h2] at h ⊢
  by_cases h3 : (wlCs S K V (if (opC t == 11 || opC t == 12) = true then B ++ [soC t] else B) (tsC t).length (subC t)).1 ≠ 0
  · rw [if_pos h3] at h; exact absurd h h3
  rw [if_neg h3] at h ⊢
  exact wantC_way0 h
theorem cin_way0 {S : List ByteArray} {K : List Core} {V : List Vr} {B : List ByteArray} {t : Cl} (h : (cinW S K V B t).e = 0) : (cinW S K V B t).way = [] := by
  unfold cinW at h ⊢
  split at h
  · rename_i h1; exact absurd h h1
  · rename_i h1; rw [if_neg h1]; exact wlC_way0 h
theorem hlen {w : World} {A : Option Addr} {N C : Nat} {X : List Int} (h : SlI w A N C X) (hb : X.length ≤ 1000000) : N ≤ 9223372036854775807 := by rw [h.1]; omega
set_option maxHeartbeats 32000000 in
theorem claimsB (z : SgZ) (p : Option Addr) (q e : Nat) (V : List Vr) (t : Cl) (ks : SS) (ta : Option Addr) (tn tc : Nat) (w : World) (hz : z.ok w) (hq : q ≤ 17592186044416) (hV : IsV w p q V) (hA : ArWC w t ks ta tn tc) :
    Calls Try.prog 5 #[z.val, .slice p q e, .agg #[.int .i64 (opC t), .string (nmC t), .string (soC t), .slice ks.a ks.n ks.c, .slice ta tn tc]] w fun e w' => e = .returned (.bool true) ∧ Below w.heap.size w w' := by
  obtain ⟨a, n, c, S, b, m, d, G⟩ := z
  obtain ⟨hS, hn, hG, hm, hK⟩ := hz
  dsimp only at hS hn hG hm hK
  unfold SgZ.val
  dsimp only
  obtain ⟨W, hW, hB, S1, T1⟩ := boxesCW w a n c b m d (opC t) (nmC t) (soC t) ks ta tn tc
  have cF := fun (w' : World) (h : Below W.heap.size W w') => Few_any a n c b m d G p q e w' hn ((hG.below hB).below h) hm hK hq
  have zC := fun (w' : World) (h : Below W.heap.size W w') => Big_any t ks ta tn tc 300 w' (by omega) (ArWC.b hA (bel_trans hB h))
  rw [show ((300 : Nat) : Int) = 300 from rfl] at zC
  have g0 := fun (w' : World) => goes_any w'
  have HS1 := Lib.hid S1
  have HT1 := Lib.hid T1
  have HB := Lib.hid hB
  have HC := Lib.hid (show fewZ n G q = true → wtTo 300 t ≤ 300 → (∀ w', Below W.heap.size W w' → Calls Try.prog 18 #[.agg #[.slice a n c, .slice b m d], .slice p q e, .agg #[.int .i64 (opC t), .string (nmC t), .string (soC t), .slice ks.a ks.n ks.c, .slice ta tn tc]] w' fun e w1 => ∃ A N C, e = .returned (.tuple #[.slice A N C, .int .i64 (cinW S (cores G) V [] t).e]) ∧ SlI w1 A N C (cinW S (cores G) V [] t).way ∧ Below w'.heap.size w' w1) ∧
      (∀ w', Below W.heap.size W w' → Calls Try.prog 19 #[.agg #[.slice a n c, .slice b m d], .slice p q e, .slice none 0 0, .agg #[.int .i64 (opC t), .string (nmC t), .string (soC t), .slice ks.a ks.n ks.c, .slice ta tn tc]] w' fun e w1 => ∃ A N C, e = .returned (.agg #[.string ⟨#[]⟩, .slice A N C, .int .i64 (cinW S (cores G) V [] t).e]) ∧ SlI w1 A N C (cinW S (cores G) V [] t).way ∧ Below w'.heap.size w' w1) ∧ (cinW S (cores G) V [] t).way.length ≤ 1000000 from fun h hw => by
    obtain ⟨h1, h2, h3, h4, h5⟩ := few_of hG h
    have hwt := Nat.le_trans (wtTo_le t 300 hw) hw
    refine ⟨fun w' hb => (Claim13_any a n c S b m d G p q e V t ks ta tn tc w' ((hS.1.below hB).below hb) (by omega) ((hG.below hB).below hb) (by omega) h5 ((hV.below hB).below hb) (by omega) (by omega) (ArWC.b hA (bel_trans hB hb))).mono fun e w1 ⟨A, N, C, h6, h7, h8⟩ => ⟨A, N, C, h6, ?_, h8⟩,
      fun w' hb => ClaimIn13_any a n c S b m d G p q e V t ks ta tn tc w' ((hS.1.below hB).below hb) (by omega) ((hG.below hB).below hb) (by omega) ((hV.below hB).below hb) (by omega) (by omega) (ArWC.b hA (bel_trans hB hb)), ?_⟩
    · by_cases he : (cinW S (cores G) V [] t).e = 0
      · rw [if_pos he] at h7; rw [cin_way0 he]; exact h7
      · rw [if_neg he] at h7; exact h7
    · unfold cinW
      split
      · exact Nat.zero_le _
      · have := wayC_len S (cores G) V [] t; omega)
  generalize fewZ n G q = F at *
  generalize wtTo 300 t = wz at *
  generalize cinW S (cores G) V [] t = R1 at *
  have hBd : Below W.heap.size W W := Below.refl _ _
  obtain ⟨ka, kn, kc⟩ := ks
  dsimp only at *
  have HQ := Lib.hid (show ∀ w', Below W.heap.size W w' → (w'.cell? ⟨w.heap.size, 0, none⟩ = some (.slice a n c) ∧ w'.cell? ⟨w.heap.size, 1, none⟩ = some (.slice b m d) ∧ w'.cell? ⟨w.heap.size + 1, 0, none⟩ = some (.int .i64 (opC t)) ∧ w'.cell? ⟨w.heap.size + 1, 1, none⟩ = some (.string (nmC t)) ∧ w'.cell? ⟨w.heap.size + 1, 2, none⟩ = some (.string (soC t)) ∧ w'.cell? ⟨w.heap.size + 1, 3, none⟩ = some (.slice ka kn kc) ∧ w'.cell? ⟨w.heap.size + 1, 4, none⟩ = some (.slice ta tn tc)) from fun w' h => by
    obtain ⟨t0, t1, t2, t3, t4⟩ := (CBox.b HT1.out h).five
    obtain ⟨s0, s1⟩ := (HS1.out.b h).two
    exact ⟨s0, s1, t0, t1, t2, t3, t4⟩)
  clear hS hn hG hm hK hq hV hA hB S1 T1
  generalize opC t = op at *
  generalize nmC t = nm at *
  generalize soC t = so at *
  obtain ⟨s0, s1, c0, c1, c2, c3, c4⟩ := HQ.out _ hBd
  cases F with
  | false =>
    clear HC zC
    go_enter Try.func5, Try.ntmps5
    go_wp2_with (first
      | (go_at_call 8; ((with_reducible refine (cF _ (by first | assumption | exact Below.drew (by assumption) | exact Below.refl _ _ | exact (Below.refl _ _).drew)).mono ?_); rintro e wX ⟨rfl, hbX⟩; have Bz : Below W.heap.size W wX := bel_trans (by first | assumption | exact Below.drew (by assumption) | exact Below.refl _ _ | exact (Below.refl _ _).drew) hbX; obtain ⟨s0, s1, c0, c1, c2, c3, c4⟩ := HQ.out _ Bz))
      | (go_at_call 11; ((with_reducible refine (g0 _).mono ?_); rintro e wX ⟨rfl, hbX⟩; have Bz : Below W.heap.size W wX := bel_trans (by first | assumption | exact Below.drew (by assumption) | exact Below.refl _ _ | exact (Below.refl _ _).drew) hbX; obtain ⟨s0, s1, c0, c1, c2, c3, c4⟩ := HQ.out _ Bz)))
    go_ret
    exact ⟨rfl, bel_trans HB.out Bz⟩
  | true =>
    by_cases q3 : 300 < wz
    · have d2 : decide (300 < wz) = true := decide_eq_true q3
      rw [d2] at zC
      clear HC
      go_enter Try.func5, Try.ntmps5
      go_wp2_with (first
        | (go_at_call 8; ((with_reducible refine (cF _ (by first | assumption | exact Below.drew (by assumption) | exact Below.refl _ _ | exact (Below.refl _ _).drew)).mono ?_); rintro e wX ⟨rfl, hbX⟩; have Bz : Below W.heap.size W wX := bel_trans (by first | assumption | exact Below.drew (by assumption) | exact Below.refl _ _ | exact (Below.refl _ _).drew) hbX; obtain ⟨s0, s1, c0, c1, c2, c3, c4⟩ := HQ.out _ Bz))
        | (go_at_call 17; ((with_reducible refine (zC _ (by first | assumption | exact Below.drew (by assumption) | exact Below.refl _ _ | exact (Below.refl _ _).drew)).mono ?_); rintro e wX ⟨rfl, hbX⟩; have Bz : Below W.heap.size W wX := bel_trans (by first | assumption | exact Below.drew (by assumption) | exact Below.refl _ _ | exact (Below.refl _ _).drew) hbX; obtain ⟨s0, s1, c0, c1, c2, c3, c4⟩ := HQ.out _ Bz))
        | (go_at_call 11; ((with_reducible refine (g0 _).mono ?_); rintro e wX ⟨rfl, hbX⟩; have Bz : Below W.heap.size W wX := bel_trans (by first | assumption | exact Below.drew (by assumption) | exact Below.refl _ _ | exact (Below.refl _ _).drew) hbX; obtain ⟨s0, s1, c0, c1, c2, c3, c4⟩ := HQ.out _ Bz)))
      go_ret
      exact ⟨rfl, bel_trans HB.out Bz⟩
    · have d2 : decide (300 < wz) = false := decide_eq_false q3
      rw [d2] at zC
      obtain ⟨k1, k2, hl⟩ := HC.out rfl (by omega)
      clear HC
      obtain ⟨E1, Y1, Z1⟩ := R1
      dsimp only at *
      have Hl := Lib.hid hl
      have hlen := fun {w' : World} {A : Option Addr} {N C : Nat} (h : SlI w' A N C Y1) => hlen h Hl.out
      have hY : decide (Y1 = Y1) = true := decide_eq_true rfl
      clear hl
      go_enter Try.func5, Try.ntmps5
      go_wp2_with (first
        | (go_at_call 8; ((with_reducible refine (cF _ (by first | assumption | exact Below.drew (by assumption) | exact Below.refl _ _ | exact (Below.refl _ _).drew)).mono ?_); rintro e wX ⟨rfl, hbX⟩; have Bz : Below W.heap.size W wX := bel_trans (by first | assumption | exact Below.drew (by assumption) | exact Below.refl _ _ | exact (Below.refl _ _).drew) hbX; obtain ⟨s0, s1, c0, c1, c2, c3, c4⟩ := HQ.out _ Bz))
        | (go_at_call 17; ((with_reducible refine (zC _ (by first | assumption | exact Below.drew (by assumption) | exact Below.refl _ _ | exact (Below.refl _ _).drew)).mono ?_); rintro e wX ⟨rfl, hbX⟩; have Bz : Below W.heap.size W wX := bel_trans (by first | assumption | exact Below.drew (by assumption) | exact Below.refl _ _ | exact (Below.refl _ _).drew) hbX; obtain ⟨s0, s1, c0, c1, c2, c3, c4⟩ := HQ.out _ Bz))
        | (go_at_call 18; ((with_reducible refine (k1 _ (by first | assumption | exact Below.drew (by assumption) | exact Below.refl _ _ | exact (Below.refl _ _).drew)).mono ?_); rintro e wX ⟨A7, N7, C7, rfl, hI7, hbX⟩; have Bz : Below W.heap.size W wX := bel_trans (by first | assumption | exact Below.drew (by assumption) | exact Below.refl _ _ | exact (Below.refl _ _).drew) hbX; obtain ⟨s0, s1, c0, c1, c2, c3, c4⟩ := HQ.out _ Bz; have HI7 := Lib.hid hI7; clear hI7))
        | (go_at_call 19; ((with_reducible refine (k2 _ (by first | assumption | exact Below.drew (by assumption) | exact Below.refl _ _ | exact (Below.refl _ _).drew)).mono ?_); rintro e wX ⟨A8, N8, C8, rfl, hI8, hbX⟩; have Bz : Below W.heap.size W wX := bel_trans (by first | assumption | exact Below.drew (by assumption) | exact Below.refl _ _ | exact (Below.refl _ _).drew) hbX; obtain ⟨s0, s1, c0, c1, c2, c3, c4⟩ := HQ.out _ Bz; have GP := GBox.new wX ⟨#[]⟩ A8 N8 C8 E1; have zz := GP.three; obtain ⟨p0, p1, p2⟩ := zz; have Bz : Below W.heap.size W (wX.alloc (.cells #[.string ⟨#[]⟩, .slice A8 N8 C8, .int .i64 E1] 40)) := bel_alloc Bz _; have HI8 := Lib.hid (SlI.below hI8 (bel_alloc (Below.refl _ _) (.cells #[.string ⟨#[]⟩, .slice A8 N8 C8, .int .i64 E1] 40))); have HI7 := Lib.hid (SlI.below HI7.out (bel_trans hbX (bel_alloc (Below.refl _ _) (.cells #[.string ⟨#[]⟩, .slice A8 N8 C8, .int .i64 E1] 40)))); clear hI8; obtain ⟨s0, s1, c0, c1, c2, c3, c4⟩ := HQ.out _ Bz))
        | (go_at_call 16; ((with_reducible refine (Ints_any _ _ _ _ _ _ _ _ _ (SlI.below HI7.out (by first | exact Below.refl _ _ | exact (Below.refl _ _).drew)) (SlI.below HI8.out (by first | exact Below.refl _ _ | exact (Below.refl _ _).drew)) (hlen HI7.out)).mono ?_); rintro e wX ⟨rfl, hbX⟩; have Bz : Below W.heap.size W wX := bel_trans (by first | assumption | exact Below.drew (by assumption) | exact Below.refl _ _ | exact (Below.refl _ _).drew) hbX; obtain ⟨s0, s1, c0, c1, c2, c3, c4⟩ := HQ.out _ Bz; have GP2 := GBox.b GP (by exact hbX); have zz := GP2.three; obtain ⟨p0, p1, p2⟩ := zz))
        | (go_at_call 11; ((with_reducible refine (g0 _).mono ?_); rintro e wX ⟨rfl, hbX⟩; have Bz : Below W.heap.size W wX := bel_trans (by first | assumption | exact Below.drew (by assumption) | exact Below.refl _ _ | exact (Below.refl _ _).drew) hbX; obtain ⟨s0, s1, c0, c1, c2, c3, c4⟩ := HQ.out _ Bz)))
      go_ret
      exact ⟨rfl, bel_trans HB.out Bz⟩
theorem wellClaims (z : SgZ) (p : Option Addr) (q e : Nat) (V : List Vr) (t : ClV) (w : World) (hz : z.ok w) (hq : q ≤ 17592186044416) (hV : SlV w p q e V ∧ ∀ v ∈ V, v.1.size ≤ 9223372036854775807 ∧ v.2.size ≤ 9223372036854775807) (hA : ArWC w t.t t.k t.a t.n t.c) :
    Calls Try.prog 5 #[z.val, .slice p q e, t.val] w fun e w' => e = .returned (.bool true) ∧ Below w.heap.size w w' :=
  claimsB z p q e V t.t t.k t.a t.n t.c w hz hq hV.1.1 hA
end Go.Proofs.Ytacncbkcnhlpcaa.Wl
